package bind_test

import (
	"fmt"
	"slices"
	"strings"
	"testing"

	"hearth/api"
	"hearth/bind"
)

// P5.5: nodes in order, of programs whose nodes are in others.
func TestCanon(t *testing.T) {
	p := boundOf(t, example)
	if q, e := bind.Canon(p); e != api.OK || !same(p, q) {
		t.Error(show(q), e)
	}
	unit, place := node(api.TermUnit, 0), named(0)
	for i, c := range []struct{ p, want api.BindProg }{
		{oneFun(node(api.TermAdd, 0, 2, 1), unit, place), oneFun(node(api.TermAdd, 0, 1, 2), place, unit)},
		{oneFun(node(api.TermAdd, 0, 1, 2), node(api.TermGet, 0, 3), node(api.TermJoin, 0, 4), place, unit), oneFun(node(api.TermAdd, 0, 1, 3), node(api.TermGet, 0, 2), place, node(api.TermJoin, 0, 4), unit)}, // all below one Kid first
		{api.BindProg{Nodes: []api.BindNode{unit, named(-1)}, Funs: []int{1, 0}, Main: 1}, api.BindProg{Nodes: []api.BindNode{named(-1), unit}, Funs: []int{0, 1}, Main: 1}},
		{api.BindProg{Nodes: []api.BindNode{node(api.TermGet, 0, 2), node(api.TermJoin, 0, 3), unit, place}, Funs: []int{1, 0}}, api.BindProg{Nodes: []api.BindNode{node(api.TermJoin, 0, 1), place, node(api.TermGet, 0, 3), unit}, Funs: []int{0, 2}}},
		{oneFun(matching(pats(pat(api.PatInt, 1), pat(api.PatName, 0)), 3, 1, 2), unit, named(1), place), oneFun(matching(pats(pat(api.PatInt, 1), pat(api.PatName, 0)), 1, 2, 3), place, unit, named(1))},
	} {
		if q, e := bind.Canon(c.p); e != api.OK || !same(q, c.want) {
			t.Error(i, show(q), e)
		}
	}
}

// P5.5: many programs stay what they are, with their nodes in order, and two that are alike become equal.
func TestCanonOfMany(t *testing.T) {
	d := newDice(8)
	mixed := 0
	for range 3000 {
		p := d.prog(pick(d, []plan{few(), some(), open()}))
		q, e := bind.Canon(p)
		if e != api.OK || text(p) != text(q) || !inOrder(q) || bind.Check(q) != api.OK {
			t.Fatal(show(p), show(q), e)
		}
		if again, e := bind.Canon(q); e != api.OK || !same(q, again) {
			t.Fatal(show(q), show(again), e)
		}
		if !inOrder(p) {
			mixed++
		}
		other := d.mixed(p)
		if again, e := bind.Canon(other); e != api.OK || !same(q, again) {
			t.Fatal(show(other), show(again), e)
		}
	}
	if mixed < 1000 {
		t.Error("most programs were in order:", mixed)
	}
}

// mixed returns the same program with its nodes in another order.
func (d dice) mixed(p api.BindProg) api.BindProg {
	var plant func(at int) *tree
	plant = func(at int) *tree {
		x := &tree{BindNode: p.Nodes[at]}
		x.Kids = nil
		for _, kid := range p.Nodes[at].Kids {
			x.below = append(x.below, plant(kid))
		}
		return x
	}
	var trees []*tree
	for _, body := range p.Funs {
		trees = append(trees, plant(body))
	}
	out := api.BindProg{Main: p.Main, Cons: p.Cons}
	d.number(&out, trees)
	return out
}

// P5.6, P5.7: the chapter's example.
func TestTrimAndJoinExample(t *testing.T) {
	p := boundOf(t, example)
	small, e := bind.Trim(p)
	if e != api.OK || len(small.Nodes) != 15 || !same(small.Funs, []int{0, 7}) || small.Main != 0 || !same(small.Nodes, p.Nodes[:15]) || !same(small.Cons, p.Cons) {
		t.Error(show(small), e)
	}
	if again, e := bind.Trim(small); e != api.OK || !same(small, again) {
		t.Error(show(again), e)
	}
	for i, c := range []struct {
		p, q api.BindProg
		node int
		want api.BindNode
	}{
		{p, small, 22, named(-5)}, {small, p, 18, named(-4)}, {p, small, 18, named(1)}, {small, p, 3, named(-2)},
	} {
		q, e := bind.Join(c.p, c.q)
		if e != api.OK || len(q.Nodes) != 34 || len(q.Funs) != 5 || !same(q.Nodes[c.node], c.want) || q.Main != 0 || !same(q.Cons, p.Cons) {
			t.Error(i, show(q), e)
		}
	}
}

// P5.6: what moves, and what stays.
func TestJoin(t *testing.T) {
	name, any := pat(api.PatName, 0), pat(api.PatAny, 0)
	p := withCons(row(named(-2), named(0)), con("A", 1), con("B", 0))
	p.Main = 1
	q := withCons(row(node(api.TermCon, 0), named(-1), matching(pats(pat(api.PatCon, 2, pat(api.PatCon, 1)), pat(api.PatInt, 2), name), 6, 5, 4, 3), named(2), named(-4), node(api.TermCon, 2, 7), named(0), node(api.TermInt, 2)), con("C", 0), con("B", 0), con("A", 1))
	q.Funs, q.Main = []int{2, 0, 1}, 2
	q.Nodes[4].N = -3
	want := api.BindProg{
		Nodes: []api.BindNode{
			named(-2), named(0),
			matching(pats(pat(api.PatCon, 0, pat(api.PatCon, 1)), pat(api.PatInt, 2), name), 3, 4, 6, 7), named(0), node(api.TermCon, 0, 5), node(api.TermInt, 2), named(-5), named(2),
			node(api.TermCon, 2), named(-3),
		},
		Funs: []int{0, 1, 2, 8, 9}, Main: 1, Cons: []api.BindCon{con("A", 1), con("B", 0), con("C", 0)},
	}
	checkAs(t, "the second one", q, true)
	if r, e := bind.Join(p, q); e != api.OK || !same(r, want) {
		t.Error(show(r), e)
	}
	mixed := oneFun(node(api.TermAdd, 0, 2, 1), node(api.TermUnit, 0), matching(pats(any), 4, 3), named(0), named(-1))
	r, e := bind.Join(mixed, mixed)
	if e != api.OK || !same(r.Nodes, []api.BindNode{node(api.TermAdd, 0, 1, 4), matching(pats(any), 2, 3), named(-1), named(0), node(api.TermUnit, 0), node(api.TermAdd, 0, 6, 9), matching(pats(any), 7, 8), named(-2), named(0), node(api.TermUnit, 0)}) || !same(r.Funs, []int{0, 5}) {
		t.Error(show(r), e)
	}
}

// P5.6: constructors that do not agree, programs that are too large, and which error comes first.
func TestJoinErrors(t *testing.T) {
	some := func(nodes int, cons ...api.BindCon) api.BindProg { return withCons(units(nodes), cons...) }
	late := func(count, from int) []api.BindCon {
		var out []api.BindCon
		for i := range count {
			out = append(out, con("Z"+string(rune('a'+from+i)), 0))
		}
		return out
	}
	for i, c := range []struct {
		p, q api.BindProg
		want api.Errno
	}{
		{some(150), some(150), api.OK}, {some(1), some(299), api.OK}, {some(151), some(150), api.ErrLong}, {some(300), some(1), api.ErrLong}, {some(300), some(300), api.ErrLong},
		{some(1, con("A", 1)), some(1, con("A", 1)), api.OK}, {some(1, con("A", 1)), some(1, con("A", 0)), api.ErrRule}, {some(1, con("A", 1), con("B", 2)), some(1, con("C", 0), con("B", 3)), api.ErrRule}, {some(1, con("A", 1), con("B", 2)), some(1, con("B", 2), con("A", 2)), api.ErrRule},
		{some(1, letters(20)...), some(1), api.OK}, {some(1), some(1, letters(20)...), api.OK}, {some(1, letters(20)...), some(1, letters(20)...), api.OK}, {some(1, letters(10)...), some(1, late(10, 0)...), api.OK}, {some(1, letters(10)...), some(1, late(11, 0)...), api.ErrLong}, {some(1, letters(20)...), some(1, late(1, 0)...), api.ErrLong},
		{some(300, con("A", 1)), some(1, con("A", 0)), api.ErrRule}, {some(1, letters(20)...), some(1, con("Za", 0), con("A", 1)), api.ErrRule}, {some(1, letters(20)...), some(1, con("A", 1), con("Za", 0)), api.ErrRule},
		{some(301), some(1), api.ErrArg}, {some(1), some(301), api.ErrArg}, {some(1, con("A", 1)), some(301, con("A", 0)), api.ErrArg}, {api.BindProg{}, some(300), api.ErrArg}, {some(300), api.BindProg{}, api.ErrArg},
	} {
		r, e := bind.Join(c.p, c.q)
		if e != c.want || e != api.OK && !noProg(r) || e == api.OK && !formed(r) {
			t.Error(i, show(r), e)
		}
	}
}

// joined is a second way to join: it writes the text of two programs as one.
func joined(p, q api.BindProg) (string, api.Errno) {
	cons := slices.Clone(p.Cons)
	for _, c := range q.Cons {
		if i := slices.IndexFunc(cons, func(d api.BindCon) bool { return c.Name == d.Name }); i < 0 {
			cons = append(cons, c)
		} else if cons[i] != c {
			return "", api.ErrRule
		}
	}
	if len(cons) > 20 || len(p.Nodes)+len(q.Nodes) > 300 {
		return "", api.ErrLong
	}
	moved := deepCopy(q)
	var movePats func(l []api.TermPat)
	movePats = func(l []api.TermPat) {
		for i := range l {
			if l[i].Form == api.PatCon {
				l[i].N = slices.Index(cons, q.Cons[l[i].N])
			}
			movePats(l[i].Parts)
		}
	}
	for i := range moved.Nodes {
		n := &moved.Nodes[i]
		if n.Op == api.TermName && n.N < 0 {
			n.N -= len(p.Funs)
		}
		if n.Op == api.TermCon {
			n.N = slices.Index(cons, q.Cons[n.N])
		}
		movePats(n.Pats)
	}
	first := text(api.BindProg{Nodes: p.Nodes, Funs: p.Funs, Main: p.Main, Cons: cons})
	second := text(moved)
	return first + "\n" + strings.SplitN(second, "\n", 3)[2], api.OK
}

// P5.6: many programs against the second way.
func TestJoinOfMany(t *testing.T) {
	d := newDice(9)
	kinds := map[api.Errno]int{}
	for range 3000 {
		p, q := d.prog(pick(d, []plan{few(), some(), open()})), d.prog(pick(d, []plan{few(), some(), open()}))
		if d.Intn(4) == 0 && len(q.Cons) > 0 { // one that does not agree, perhaps
			q = d.change(q)
			if !formed(q) {
				continue
			}
		}
		want, f := joined(p, q)
		r, e := bind.Join(p, q)
		kinds[e]++
		if e != f || e != api.OK && !noProg(r) || e == api.OK && (text(r) != want || !inOrder(r) || !formed(r)) {
			t.Fatal(show(p), show(q), show(r), e, f, want)
		}
	}
	if kinds[api.OK] < 1500 || kinds[api.ErrRule] < 10 {
		t.Error("the programs are all of one kind:", kinds)
	}
}

// P5.6: three programs become the same one, whichever two are joined first.
func TestJoinOfThree(t *testing.T) {
	d := newDice(10)
	count := 0
	for range 2000 {
		p, q, r := d.prog(few()), d.prog(few()), d.prog(open())
		pq, e := bind.Join(p, q)
		qr, f := bind.Join(q, r)
		if e != api.OK || f != api.OK {
			continue
		}
		a, e := bind.Join(pq, r)
		b, f := bind.Join(p, qr)
		if e != f || !same(a, b) {
			t.Fatal(show(p), show(q), show(r), show(a), show(b), e, f)
		}
		if e == api.OK {
			count++
		}
	}
	if count < 1000 {
		t.Error("few programs were joined:", count)
	}
}

// calls returns a program of functions that name others; each one adds them up.
func calls(main int, named ...[]int) api.BindProg {
	p := api.BindProg{Main: main}
	for _, l := range named {
		p.Funs = append(p.Funs, len(p.Nodes))
		for _, fun := range l {
			at := len(p.Nodes)
			p.Nodes = append(p.Nodes, node(api.TermAdd, 0, at+1, at+2), api.BindNode{Op: api.TermName, N: -1 - fun})
		}
		p.Nodes = append(p.Nodes, node(api.TermInt, len(p.Funs)))
	}
	return p
}

// marks returns the integers at the ends of the functions of a program of calls.
func marks(p api.BindProg) []int {
	var out []int
	for _, n := range p.Nodes {
		if n.Op == api.TermInt {
			out = append(out, n.N)
		}
	}
	return out
}

// P5.7: which functions stay, in which order, and with which numbers.
func TestTrim(t *testing.T) {
	for i, c := range []struct {
		p    api.BindProg
		want []int
		main int
		left []int // all that functions name, then
	}{
		{calls(0, nil), []int{1}, 0, nil},
		{calls(0, []int{0}), []int{1}, 0, []int{0}},
		{calls(0, nil, nil), []int{1}, 0, nil},
		{calls(1, nil, nil), []int{2}, 0, nil},
		{calls(1, []int{1}, nil), []int{2}, 0, nil}, // who names main is not reached by that
		{calls(0, []int{1}, []int{2}, []int{3}, nil), []int{1, 2, 3, 4}, 0, []int{1, 2, 3}},
		{calls(3, nil, []int{0}, nil, []int{1}), []int{1, 2, 4}, 2, []int{0, 1}},
		{calls(2, []int{1}, []int{0}, []int{4}, []int{0}, []int{2, 4}), []int{3, 5}, 0, []int{1, 0, 1}},
		{calls(1, []int{2}, []int{3, 0}, []int{1}, nil, []int{0}), []int{1, 2, 3, 4}, 1, []int{2, 3, 0, 1}},
	} {
		q, e := bind.Trim(c.p)
		var left []int
		for _, n := range q.Nodes {
			if n.Op == api.TermName {
				left = append(left, -1-n.N)
			}
		}
		if e != api.OK || !slices.Equal(marks(q), c.want) || q.Main != c.main || !slices.Equal(left, c.left) || !inOrder(q) || !formed(q) {
			t.Error(i, show(q), e)
		}
	}
	deep := oneFun(node(api.TermFun, 0, 1), matching(pats(pat(api.PatAny, 0)), 2, 3), named(0), node(api.TermCell, 0, 4), named(-2))
	deep.Nodes = append(deep.Nodes, named(0), named(-1))
	deep.Funs = []int{0, 5, 6}
	if q, e := bind.Trim(withCons(deep, letters(3)...)); e != api.OK || len(q.Funs) != 2 || len(q.Nodes) != 6 || len(q.Cons) != 3 {
		t.Error(show(q), e)
	}
}

// P5.7: a place is no function, though it has the same number.
func TestTrimPlaces(t *testing.T) {
	p := api.BindProg{Nodes: []api.BindNode{named(1), named(-2), node(api.TermInt, 1), named(0)}, Funs: []int{0, 1, 2, 3}}
	q, e := bind.Trim(p)
	if e != api.OK || !same(q, oneFun(named(1))) {
		t.Error(show(q), e)
	}
	p.Main = 1
	q, e = bind.Trim(p)
	if e != api.OK || !same(q, oneFun(named(-1))) {
		t.Error(show(q), e)
	}
}

// reaches is a second way to tell what a program reaches: what is named by them is added as long as there is more.
func reaches(p api.BindProg) []int {
	in := []int{p.Main}
	for grown := true; grown; {
		grown = false
		for fun := range p.Funs {
			for _, by := range in {
				if !slices.Contains(in, fun) && strings.Contains(nodeText(p, p.Funs[by]), fmt.Sprintf("(%d %d)", api.TermName, -1-fun)) {
					in = append(in, fun)
					grown = true
				}
			}
		}
	}
	slices.Sort(in)
	return in
}

// P5.7: many programs against the second way; what was trimmed stays as it is.
func TestTrimOfMany(t *testing.T) {
	d := newDice(11)
	smaller := 0
	for range 3000 {
		p := d.prog(pick(d, []plan{few(), some(), open(), {funs: 12, depth: 3}}))
		in := reaches(p)
		q, e := bind.Trim(p)
		if e != api.OK || !formed(q) || !inOrder(q) || len(q.Funs) != len(in) || q.Main != slices.Index(in, p.Main) || !same(p.Cons, q.Cons) {
			t.Fatal(show(p), show(q), e)
		}
		for fun, old := range in {
			want := deepCopy(p)
			for i, n := range want.Nodes {
				if n.Op == api.TermName && n.N < 0 {
					want.Nodes[i].N = -1 - slices.Index(in, -1-n.N)
				}
			}
			if nodeText(q, q.Funs[fun]) != nodeText(want, want.Funs[old]) {
				t.Fatal(show(p), show(q), fun)
			}
		}
		if again, e := bind.Trim(q); e != api.OK || !same(q, again) {
			t.Fatal(show(q), show(again), e)
		}
		if len(in) < len(p.Funs) {
			smaller++
		}
	}
	if smaller < 500 {
		t.Error("few programs became smaller:", smaller)
	}
}
