package cover_test

import (
	"slices"
	"testing"

	"hearth/api"
	"hearth/cover"
)

// P4.3, P4.4, P4.5: the examples of the chapter.
func TestSearchExamples(t *testing.T) {
	a, b, c := caseA(t), caseB(t), caseC(t)
	for i, x := range []struct{ got, want string }{
		{valued(cover.Missing(a)), "Node(Leaf, ~1, Leaf)"}, {valued(cover.Missing(b)), "ErrNone"}, {valued(cover.Missing(c)), "ErrNone"}, {valued(cover.Missing(caseOf(t, "", "int", "0; ~1; 2"))), "1"},
		{valued(cover.Sample(a, 1)), "Node(Leaf, 1, Leaf)"}, {valued(cover.Sample(b, 1)), "Two(false, true)"}, {valued(cover.Sample(b, 2)), "Two(false, false)"}, {valued(cover.Sample(b, 3)), "ErrNone"},
		{valued(cover.Both(a, 0, 1)), "ErrNone"}, {valued(cover.Both(b, 0, 1)), "Two(true, true)"}, {valued(cover.Both(b, 1, 2)), "ErrNone"}, {valued(cover.Both(a, 1, 1)), "Node(Leaf, 1, Leaf)"},
	} {
		if x.got != x.want {
			t.Errorf("%d: %s, not %s", i, x.got, x.want)
		}
	}
	if l, e := cover.Useless(a); e != api.OK || len(l) > 0 {
		t.Error(l, e)
	}
	if l, e := cover.Useless(b); e != api.OK || !slices.Equal(l, []int{3}) {
		t.Error(l, e)
	}
}

// P4.3: the order of values: nodes, then nodes from the outside; integers near 0, false, and the first constructor first.
func TestMissing(t *testing.T) {
	for _, c := range []struct{ datas, kind, rows, want string }{
		{"", "int", "", "0"}, {"", "int", "0", "1"}, {"", "int", "0; 1", "~1"}, {"", "int", "0; 1; ~1", "2"}, {"", "int", "0; 1; ~1; 2", "~2"}, {"", "int", "~2; 2; ~1; 1; 0", "3"}, {"", "int", "1; 2; 3; 4; 5", "0"}, {"", "int", "1000000000; 0", "1"}, {"", "int", "x", "ErrNone"}, {"", "int", "0; _", "ErrNone"},
		{"", "bool", "", "false"}, {"", "bool", "false", "true"}, {"", "bool", "true", "false"}, {"", "bool", "true; false", "ErrNone"}, {"", "unit", "", "()"}, {"", "unit", "()", "ErrNone"}, {"", "int -> int", "", "f"}, {"", "chan int", "x", "ErrNone"}, {"", "task int", "", "f"}, {"", "cell bool", "", "f"},
		// Fewer nodes count more than the order of constructors, and this more than what stands within them.
		{"type T = A(int) | B | C;", "T", "", "B"}, {"type T = A(int) | B | C;", "T", "B", "C"}, {"type T = A(int) | B | C;", "T", "B; C", "A(0)"}, {"type T = A(int) | B | C;", "T", "C; A(0); B; A(1)", "A(~1)"}, {"type T = B(int) | A(int);", "T", "", "B(0)"}, {"type T = B(int) | A(int);", "T", "B(0)", "B(1)"}, {"type T = B(bool) | A(bool);", "T", "B(_)", "A(false)"},
		// The first Part counts most, though a later one would have to change less.
		{"type T = A(int, int);", "T", "A(0, 0)", "A(0, 1)"}, {"type T = A(int, int);", "T", "A(0, _)", "A(1, 0)"}, {"type T = A(int, int);", "T", "A(0, 0); A(0, 1); A(0, ~1); A(0, 2)", "A(0, ~2)"}, {"type T = A(bool, int);", "T", "A(_, 0)", "A(false, 1)"},
		// As many nodes, in other Parts.
		{"type T = A | B(T, T);", "T", "A; B(A, A)", "B(A, B(A, A))"}, {"type T = A | B(T, T);", "T", "A; B(A, _)", "B(B(A, A), A)"}, {"type T = B(T, T) | A;", "T", "A; B(A, A)", "B(B(A, A), A)"}, {"type T = B(T, T) | A;", "T", "A; B(B(_, _), A)", "B(A, A)"},
		{"type T = A(int, U); type U = D(int) | C;", "T", "A(0, C); A(1, C); A(~1, C); A(2, C)", "A(~2, C)"}, {"type T = A(int, U); type U = D(int) | C;", "T", "A(_, C)", "A(0, D(0))"},
		{treeData, "Tree", "Leaf; Node(Leaf, _, Leaf)", "Node(Leaf, 0, Node(Leaf, 0, Leaf))"}, {treeData, "Tree", "Leaf; Node(Leaf, _, _)", "Node(Node(Leaf, 0, Leaf), 0, Leaf)"}, {treeData, "Tree", "Leaf; Node(_, 0, _); Node(_, _, Leaf)", "Node(Leaf, 1, Node(Leaf, 0, Leaf))"},
		// The least value of a constructor can be larger than that of a type, and the other way round.
		{"type T = A(U, U) | B(V); type U = C(int); type V = D(U);", "T", "", "B(D(C(0)))"}, {"type T = A(U, U) | B(V); type U = C(int); type V = D(U);", "T", "B(_)", "A(C(0), C(0))"}, {"type T = A(U) | B(int, int); type U = C(V); type V = D(int);", "T", "", "B(0, 0)"},
		// Types without values, within others.
		{"type V = V(V);", "V", "", "ErrNone"}, {"type V = V(V);", "V", "V(V(V(_)))", "ErrNone"}, {"type V = V(V); type T = A(V) | B(T) | C(int);", "T", "C(0)", "C(1)"}, {"type V = V(V); type T = A(V) | B(T) | C(int);", "T", "C(_)", "B(C(0))"}, {"type V = W(U); type U = X(V, int) | Y(V);", "U", "", "ErrNone"}, {"type V = W(U); type U = X(V, int) | Y(V); type T = A | B(cell V) | C(U);", "T", "A", "B(f)"}, {"type V = V(V); type T = A(int, V) | B;", "T", "B", "ErrNone"}, {"type V = V(V); type T = A(V, int) | B;", "T", "A(_, 0)", "B"},
		{shop, "Mix", "Empty", "Task(f)"}, {shop, "Mix", "Empty; Task(_)", "Pair(0, false)"}, {shop, "Mix", "Empty; Pair(_, false); Task(_)", "Pair(0, true)"}, {shop, "Mix", "Empty; Pair(_, _); Task(_)", "Unit((), Box(f, f, f), Empty)"}, {shop, "Mix", "Empty; Pair(_, _); Task(_); Unit((), _, Empty)", "Unit((), Box(f, f, f), Task(f))"}, {shop, "Mix", "Empty; Pair(_, _); Task(_); Unit(_, Box(_, _, _), _)", "ErrNone"},
	} {
		if got := valued(cover.Missing(caseOf(t, c.datas, c.kind, c.rows))); got != c.want {
			t.Errorf("%q %q %q: %s, not %s", c.datas, c.kind, c.rows, got, c.want)
		}
	}
}

// P4.4, P4.5: first values whose first row is one, and those that two match.
func TestSampleAndBoth(t *testing.T) {
	type answers []string
	for _, c := range []struct {
		datas, kind, rows string
		samples           answers
		both              answers // of the rows 0 and 0, 0 and 1, and so on, then of 1 and 0 ..
		useless           []int
	}{
		{"", "int", "0; 1; _; 5", answers{"0", "1", "~1", "ErrNone"}, answers{"0", "ErrNone", "0", "ErrNone", "ErrNone", "1", "1", "ErrNone", "0", "1", "0", "5", "ErrNone", "ErrNone", "5", "5"}, []int{3}},
		{"", "bool", "true; _; false", answers{"true", "false", "ErrNone"}, answers{"true", "true", "ErrNone", "true", "false", "false", "ErrNone", "false", "false"}, []int{2}},
		{"", "cell int", "x; _", answers{"f", "ErrNone"}, answers{"f", "f", "f", "f"}, []int{1}},
		{treeData, "Tree", "Node(_, 1, _); Node(Leaf, _, _); Node(_, _, Leaf)", answers{"Node(Leaf, 1, Leaf)", "Node(Leaf, 0, Leaf)", "Node(Node(Leaf, 0, Leaf), 0, Leaf)"},
			answers{"Node(Leaf, 1, Leaf)", "Node(Leaf, 1, Leaf)", "Node(Leaf, 1, Leaf)", "Node(Leaf, 1, Leaf)", "Node(Leaf, 0, Leaf)", "Node(Leaf, 0, Leaf)", "Node(Leaf, 1, Leaf)", "Node(Leaf, 0, Leaf)", "Node(Leaf, 0, Leaf)"}, nil},
		// Rows can be of use by themselves, and of none behind others together.
		{"type T = A(bool, bool);", "T", "A(true, _); A(_, true); A(_, false)", answers{"A(true, false)", "A(false, true)", "A(false, false)"}, answers{"A(true, false)", "A(true, true)", "A(true, false)", "A(true, true)", "A(false, true)", "ErrNone", "A(true, false)", "ErrNone", "A(false, false)"}, nil},
		{"type T = A(bool, bool);", "T", "A(true, _); A(false, true); A(_, false); A(_, _)", answers{"A(true, false)", "A(false, true)", "A(false, false)", "ErrNone"}, nil, []int{3}},
		{"type V = V(V); type T = A(V) | B;", "T", "A(_); x; B; _", answers{"ErrNone", "B", "ErrNone", "ErrNone"}, nil, []int{0, 2, 3}},
		{"type V = V(V);", "V", "x; V(_); _", answers{"ErrNone", "ErrNone", "ErrNone"}, answers{"ErrNone", "ErrNone", "ErrNone", "ErrNone", "ErrNone", "ErrNone", "ErrNone", "ErrNone", "ErrNone"}, []int{0, 1, 2}},
		{"", "int", "", nil, nil, nil},
	} {
		k := caseOf(t, c.datas, c.kind, c.rows)
		for row, want := range c.samples {
			if got := valued(cover.Sample(k, row)); got != want {
				t.Errorf("Sample %d of %q %q: %s, not %s", row, c.kind, c.rows, got, want)
			}
		}
		for i, want := range c.both {
			if got := valued(cover.Both(k, i/len(k.Rows), i%len(k.Rows))); got != want {
				t.Errorf("Both %d %d of %q %q: %s, not %s", i/len(k.Rows), i%len(k.Rows), c.kind, c.rows, got, want)
			}
		}
		if l, e := cover.Useless(k); e != api.OK || !slices.Equal(l, c.useless) {
			t.Error(c.kind, c.rows, l, e)
		}
	}
}

// P4.4, P4.5: rows that there are not.
func TestSearchRows(t *testing.T) {
	for _, c := range []api.CoverCase{caseA(t), caseOf(t, "", "int", ""), caseOf(t, "type V = V(V);", "V", "_; _; _")} {
		for _, bad := range []int{-1, len(c.Rows), 1 << 62, -1 << 62} {
			for i, got := range []string{valued(cover.Sample(c, bad)), valued(cover.Both(c, bad, 0)), valued(cover.Both(c, 0, bad)), valued(cover.Both(c, bad, bad))} {
				if got != "ErrArg" {
					t.Error(show(c), bad, i, got)
				}
			}
		}
	}
}

// P4.3, P4.4, P4.5: many cases, by all values up to a size, and by whether there are values at all.
func TestSearchesOfMany(t *testing.T) {
	d := newDice(3)
	met := map[string]int{}
	for range 3000 {
		c := d.cases()
		o := newOracle(c, 1500)
		rows := make([]int, len(c.Rows))
		for i := range rows {
			rows[i] = i
		}
		check := func(what string, v api.CoverVal, e api.Errno, exists bool, is func(api.CoverVal) bool) {
			t.Helper()
			if e != api.OK && e != api.ErrNone || e != api.OK && !same(v, api.CoverVal{}) || (e == api.OK) != exists || !o.right(v, e == api.ErrNone, is) {
				t.Fatal(what, show(c), written(v), e, exists)
			}
			met[what+errorText(e)]++
			if nodesOf(v) > o.most {
				met[what+" beyond the list"]++
			}
		}
		v, e := cover.Missing(c)
		check("Missing", v, e, o.existsFor(nil, rows), func(v api.CoverVal) bool { return o.first(v) < 0 })
		var useless []int
		for row := range c.Rows {
			v, e := cover.Sample(c, row)
			check("Sample", v, e, o.existsFor(rows[row:row+1], rows[:row]), func(v api.CoverVal) bool { return o.first(v) == row })
			if e == api.ErrNone {
				useless = append(useless, row)
			}
			other := d.Intn(len(rows))
			v, e = cover.Both(c, row, other)
			check("Both", v, e, o.existsFor([]int{row, other}, nil), func(v api.CoverVal) bool { return fits(c.Rows[row], v) && fits(c.Rows[other], v) })
		}
		if l, e := cover.Useless(c); e != api.OK || !slices.Equal(l, useless) {
			t.Fatal(show(c), l, useless, e)
		}
	}
	for _, what := range []string{"Missing", "MissingErrNone", "Sample", "SampleErrNone", "Both", "BothErrNone"} {
		if met[what] < 300 || met[what+" beyond the list"] > met[what]/5 {
			t.Error("few cases of one kind:", what, met)
		}
	}
}

// P4.4: without a row that is of no use first rows stay.
func TestUselessRowsCanGo(t *testing.T) {
	d := newDice(4)
	gone := 0
	for range 1500 {
		c := d.cases()
		l, e := cover.Useless(c)
		if e != api.OK || len(l) == 0 {
			continue
		}
		gone++
		row := pick(d, l)
		fewer := c
		fewer.Rows = slices.Delete(slices.Clone(c.Rows), row, row+1)
		for _, v := range newOracle(c, 300).listed {
			n, e := cover.First(c, v)
			m, f := cover.First(fewer, v)
			if m >= row && f == api.OK {
				m++
			}
			if n != m || e != f {
				t.Fatal(show(c), row, written(v), n, e, m, f)
			}
		}
	}
	if gone < 300 {
		t.Error("few cases:", gone)
	}
}

// P4.5: rows next to each other that match no value both can change places.
func TestApartRowsCanChangePlaces(t *testing.T) {
	d := newDice(5)
	met := map[bool]int{}
	for range 1500 {
		c := d.cases()
		if len(c.Rows) < 2 {
			continue
		}
		row := d.Intn(len(c.Rows) - 1)
		_, e := cover.Both(c, row, row+1)
		met[e == api.ErrNone]++
		if e == api.OK {
			continue
		}
		turned := c
		turned.Rows = slices.Clone(c.Rows)
		turned.Rows[row], turned.Rows[row+1] = c.Rows[row+1], c.Rows[row]
		for _, v := range newOracle(c, 300).listed {
			n, e := cover.First(c, v)
			m, f := cover.First(turned, v)
			switch {
			case f == api.OK && m == row:
				m = row + 1
			case f == api.OK && m == row+1:
				m = row
			}
			if n != m || e != f {
				t.Fatal(show(c), row, written(v), n, e, m, f)
			}
		}
	}
	if met[true] < 200 || met[false] < 200 {
		t.Error("few cases of one kind:", met)
	}
}
