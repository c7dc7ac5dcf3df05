package cover_test

import (
	"slices"
	"testing"

	"hearth/api"
	"hearth/cover"
)

// P4.7: trees by rows: what is known is not asked again, and the next row begins where a node cannot stand.
func TestTree(t *testing.T) {
	no := leaf(-1)
	for _, c := range []struct {
		datas, kind, rows string
		want              api.CoverNode
	}{
		{"", "int", "", no}, {"", "int", "x", leaf(0)}, {"", "int", "_; 1", leaf(0)}, {"", "unit", "()", leaf(0)}, {"", "int -> int", "", no}, {"", "cell int", "_", leaf(0)},
		{"", "int", "1; 2; 1", test(t, nil, "1", leaf(0), test(t, nil, "2", leaf(1), no))}, {"", "int", "1; 1; x", test(t, nil, "1", leaf(0), leaf(2))},
		{"", "bool", "false", test(t, nil, "false", leaf(0), no)}, {"", "bool", "false; true; _", test(t, nil, "false", leaf(0), leaf(1))}, {"", "bool", "false; false; _", test(t, nil, "false", leaf(0), leaf(2))},
		{"type T = A | B | C;", "T", "B; C; A", test(t, nil, "B", leaf(0), test(t, nil, "C", leaf(1), leaf(2)))}, {"type T = A;", "T", "A", leaf(0)}, {"type V = V(V);", "V", "V(V(V(_)))", leaf(0)},
		{"type T = A(bool, U); type U = B(int);", "T", "A(true, B(1)); A(x, B(2))", test(t, []int{0}, "true", test(t, []int{1, 0}, "1", leaf(0), test(t, []int{1, 0}, "2", leaf(1), no)), test(t, []int{1, 0}, "2", leaf(1), no))},
		{"type Two = Two(bool, bool);", "Two", "Two(true, _); Two(_, true); Two(false, false); z", test(t, []int{0}, "true", leaf(0), test(t, []int{1}, "true", leaf(1), leaf(2)))},
		{treeData, "Tree", "Node(Leaf, 0, x); Node(y, 1, _); Leaf", test(t, nil, "Node", test(t, []int{0}, "Leaf", test(t, []int{1}, "0", leaf(0), test(t, []int{1}, "1", leaf(1), no)), test(t, []int{1}, "1", leaf(1), no)), leaf(2))},
	} {
		k := caseOf(t, c.datas, c.kind, c.rows)
		tree, e := cover.Tree(k)
		if e != api.OK || !same(tree, c.want) || !same(tree, newOracle(k, 1).ruled()) {
			t.Errorf("%q %q %q: %s %d", c.datas, c.kind, c.rows, show(tree), e)
		}
	}
	for i, c := range []api.CoverCase{{}, caseOf(t, "", "int", "true"), caseOf(t, "", "A", "")} {
		if tree, e := cover.Tree(c); e != api.ErrArg || !same(tree, api.CoverNode{}) {
			t.Error(i, show(tree), e)
		}
	}
}

// treeIsRight checks what Tree returns against the tree by rows, of any size, and returns its error.
func treeIsRight(t *testing.T, o *oracle) api.Errno {
	t.Helper()
	tree, e := cover.Tree(o.CoverCase)
	ruled := o.ruled()
	if e == api.ErrLong && treeNodes(ruled) > api.CoverNodes && same(tree, api.CoverNode{}) {
		return e
	}
	if e != api.OK || treeNodes(tree) > api.CoverNodes || !o.treeFormed(tree, nil) || cover.CheckTree(o.CoverCase, tree) != api.OK {
		t.Fatal(show(o.CoverCase), show(tree), e)
	}
	if got := agreed(o.CoverCase, tree); got != "" {
		t.Fatal(show(o.CoverCase), show(tree), got)
	}
	for _, v := range o.listed {
		if row, _ := walk(tree, v); row != o.first(v) {
			t.Fatal(show(o.CoverCase), show(tree), written(v), row)
		}
	}
	return e
}

// P4.7: many cases.
func TestTreeOfMany(t *testing.T) {
	d := newDice(8)
	for range 2500 {
		treeIsRight(t, newOracle(d.cases(), 400))
	}
}

// regions returns a case with rows that ask for chains of so many nodes, each in a Part of its own.
func regions(t *testing.T, datas string, chains ...int) api.CoverCase {
	t.Helper()
	c := caseOf(t, datas+" type Q = N | F(Q);", "T", "")
	for i, nodes := range chains {
		row := api.TermPat{Form: api.PatCon, Text: "T", Parts: []api.TermPat{{Form: api.PatAny}, {Form: api.PatAny}, {Form: api.PatAny}}}
		row.Parts[i] = patOf(t, "N")
		for range nodes - 1 {
			row.Parts[i] = api.TermPat{Form: api.PatCon, Text: "F", Parts: []api.TermPat{row.Parts[i]}}
		}
		c.Rows = append(c.Rows, row)
	}
	return c
}

// P4.7: the error is returned for trees by rows with too many nodes alone. (All trees by rows have an odd number of nodes.)
func TestTreeAtTheLimit(t *testing.T) {
	const one, other = "type T = T(Q, Q, Q);", "type T = T(Q, Q, Q) | Z;"
	for _, x := range []struct {
		datas   string
		a, b, c int
		nodes   int
		want    api.Errno
	}{
		{other, 6, 4, 7, 399, api.OK}, {one, 8, 4, 5, 401, api.ErrLong}, {other, 8, 4, 5, 403, api.ErrLong}, {one, 6, 4, 7, 397, api.OK}, {one, 7, 7, 7, 799, api.ErrLong}, {other, 9, 9, 3, 669, api.ErrLong}, {one, 1, 1, 1, 7, api.OK}, {one, 9, 9, 1, 343, api.OK}, {one, 1, 9, 9, 183, api.OK},
	} {
		o := newOracle(regions(t, x.datas, x.a, x.b, x.c), 300)
		if nodes := treeNodes(o.ruled()); nodes != x.nodes {
			t.Error(show(x), nodes)
		}
		if e := treeIsRight(t, o); e != x.want {
			t.Error(show(x), e)
		}
	}
}

// P4.7: cases with many nodes, of which some have one row more.
func TestTreeOfManyNodes(t *testing.T) {
	d := newDice(9)
	met := map[api.Errno]int{}
	for met[api.OK]+met[api.ErrLong] < 300 {
		c := regions(t, "type T = Z | T(Q, Q, Q);", 4+d.Intn(6), 4+d.Intn(6), 4+d.Intn(6))
		d.Shuffle(len(c.Rows), func(i, j int) { c.Rows[i], c.Rows[j] = c.Rows[j], c.Rows[i] })
		if d.Intn(2) == 0 {
			row, at := d.pat(c.Datas, c.Type, 3), d.Intn(len(c.Rows)+1)
			c.Rows = slices.Insert(c.Rows, at, row)
		}
		if cover.Check(c) == api.OK {
			met[treeIsRight(t, newOracle(c, 300))]++
		}
	}
	if met[api.OK] < 50 || met[api.ErrLong] < 50 {
		t.Error("few cases of one kind:", met)
	}
}
