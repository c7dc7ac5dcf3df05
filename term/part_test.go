package term_test

import (
	"slices"
	"testing"

	"hearth/api"
	"hearth/term"
)

// example is a term of the document: match a { Cons(b, c) -> b + d }.
func example() api.Term {
	return match(name("a"), row{con("Cons", pat("b"), pat("c")), plus(name("b"), name("d"))})
}

func depthOf(t api.Term) int {
	most := 0
	for _, p := range paths(t) {
		most = max(most, len(p)+1)
	}
	return most
}

// P1.3: how many nodes, and how much depth; patterns do not count.
func TestNodesAndDepth(t *testing.T) {
	for i, c := range []struct {
		t            api.Term
		nodes, depth int
	}{
		{num(1), 1, 1}, {example(), 5, 3}, {fun("x", name("x")), 2, 2}, {bind(api.TermCon, "Nil"), 1, 1}, {wide(60), 60, depthOf(wide(60))},
		{deep(14, num(1)), 14, 14}, {plus(num(1), deep(4, num(2))), 6, 5}, {plus(deep(4, num(2)), num(1)), 6, 5}, {node(api.TermIf, num(1), deep(3, num(1)), deep(2, num(1))), 7, 4},
	} {
		if n, e := term.Nodes(c.t); n != c.nodes || e != api.OK {
			t.Error(i, n, "nodes", e)
		}
		if n, e := term.Depth(c.t); n != c.depth || e != api.OK {
			t.Error(i, "depth", n, e)
		}
	}
	d := dice(1)
	for range 300 {
		u := d.formed(60, 7)
		n, e := term.Nodes(u)
		m, f := term.Depth(u)
		if n != len(paths(u)) || m != depthOf(u) || e != api.OK || f != api.OK {
			t.Fatal(show(u), n, m, e, f)
		}
	}
}

// P1.3: each part is found at its path, in memory of its own.
func TestAt(t *testing.T) {
	d := dice(2)
	for range 100 {
		u := d.formed(60, 6)
		for _, p := range paths(u) {
			before := slices.Clone(p)
			if v, e := term.At(u, p); e != api.OK || !equal(v, part(u, p)) || !slices.Equal(before, p) {
				t.Fatal(show(u), p, show(v), e)
			}
			if !apart(func(a []api.Term) api.Term { v, _ := term.At(a[0], p); return v }, u) {
				t.Fatal(show(u), p, "shares memory")
			}
		}
	}
	if v, e := term.At(example(), []int{1, 0}); e != api.OK || !equal(v, name("b")) {
		t.Error(show(v), e)
	}
}

// wrongPaths lead to no part of the example.
func wrongPaths() [][]int {
	return [][]int{{2}, {-1}, {0, 0}, {1, 2}, {1, -1}, {1, 0, 0}, {2, 0}, {-1, 0}, {1 << 62}, {-1 << 62}, {1, 0, -1}, make([]int, 100000)}
}

// P1.3: a path that leads to no part.
func TestWrongPaths(t *testing.T) {
	for i, p := range wrongPaths() {
		if v, e := term.At(example(), p); e != api.ErrArg || !zero(v) {
			t.Error(i, show(v), e)
		}
		if v, e := term.Put(example(), p, num(1)); e != api.ErrArg || !zero(v) {
			t.Error(i, show(v), e)
		}
		if v, e := term.Put(example(), p, deep(14, num(1))); e != api.ErrArg || !zero(v) {
			t.Error(i, "ErrArg comes first:", show(v), e)
		}
	}
}

// begins reports whether a path begins with another one.
func begins(p, with []int) bool {
	return len(p) >= len(with) && slices.Equal(p[:len(with)], with)
}

// P1.3: the part that was put is found at its path, and all others are as before.
func TestPut(t *testing.T) {
	d := dice(3)
	for range 60 {
		u, v := d.formed(50, 6), d.formed(10, 4)
		for _, p := range paths(u) {
			w, e := term.Put(u, p, v)
			if e != api.OK {
				t.Fatal(show(u), p, show(v), e)
			}
			if x, f := term.At(w, p); f != api.OK || !equal(x, v) {
				t.Fatal(show(u), p, show(v), show(x))
			}
			othersAsBefore(t, u, w, p)
		}
	}
}

// othersAsBefore looks at all parts that do not lie within the one that was put.
func othersAsBefore(t *testing.T, u, w api.Term, p []int) {
	t.Helper()
	for _, q := range paths(u) {
		a := part(u, q)
		switch {
		case begins(q, p):
		case begins(p, q):
			b := part(w, q)
			same := len(a.Kids) == len(b.Kids)
			a.Kids, b.Kids = nil, nil
			if !same || !equal(a, b) {
				t.Fatal(show(u), p, "changed the node at", q)
			}
		default:
			if !equal(a, part(w, q)) {
				t.Fatal(show(u), p, "changed the part at", q)
			}
		}
	}
}

// P1.3: a result that would not be formed.
func TestPutLimits(t *testing.T) {
	pair := plus(num(1), wide(57)) // 59 nodes
	for i, c := range []struct {
		t, part api.Term
		path    []int
		want    api.Errno
	}{
		{pair, wide(2), []int{0}, api.OK}, {pair, wide(3), []int{0}, api.ErrLong}, {pair, wide(60), []int{0}, api.ErrLong}, {pair, wide(60), nil, api.OK}, {pair, wide(58), []int{1}, api.OK}, {pair, wide(59), []int{1}, api.ErrLong},
		{deep(14, num(1)), deep(14, num(2)), nil, api.OK}, {deep(7, num(1)), deep(8, num(2)), []int{0, 0, 0, 0, 0, 0}, api.OK}, {deep(7, num(1)), deep(9, num(2)), []int{0, 0, 0, 0, 0, 0}, api.ErrLong},
		{deep(14, num(1)), deep(13, num(2)), []int{0}, api.OK}, {deep(14, num(1)), deep(14, num(2)), []int{0}, api.ErrLong}, {example(), deep(12, num(1)), []int{1, 0}, api.OK}, {example(), deep(13, num(1)), []int{1, 0}, api.ErrLong},
		{example(), api.Term{}, nil, api.ErrArg}, {example(), api.Term{Op: api.TermOut, N: 4, Kids: []api.Term{num(1)}}, []int{0}, api.ErrArg}, {wide(61), num(1), nil, api.ErrArg},
	} {
		v, e := term.Put(c.t, c.path, c.part)
		if e != c.want || e != api.OK && !zero(v) {
			t.Error(i, e)
		}
		if e == api.OK && !equal(part(v, c.path), c.part) {
			t.Error(i, show(v))
		}
	}
}

// R4: what was put together shares no memory with what it is of.
func TestPutMemory(t *testing.T) {
	d := dice(4)
	for range 30 {
		u, v := d.formed(40, 5), d.formed(15, 4)
		for _, p := range paths(u) {
			if !apart(func(a []api.Term) api.Term { w, _ := term.Put(a[0], p, a[1]); return w }, u, v) {
				t.Fatal(show(u), p, show(v))
			}
		}
	}
	v := plus(num(1), num(2))
	if w, e := term.Put(plus(v, v), []int{0}, v); e != api.OK || !loose(w) {
		t.Error("lists of one result share memory", e)
	}
}
