package cover_test

import (
	"slices"
	"testing"

	"hearth/api"
	"hearth/cover"
)

// walked writes what Walk returns.
func walked(t *testing.T, c api.CoverCase, n api.CoverNode, v string) [2]int {
	t.Helper()
	row, tests, e := cover.Walk(c, n, valOf(t, v))
	if e != api.OK {
		t.Error(v, e)
	}
	return [2]int{row, tests}
}

// agreed writes what Agrees returns: nothing if the tree agrees.
func agreed(c api.CoverCase, n api.CoverNode) string {
	v, e := cover.Agrees(c, n)
	if e == api.ErrRule {
		return written(v)
	}
	if !same(v, api.CoverVal{}) {
		return errorText(e) + " and " + written(v)
	}
	return errorText(e)
}

// P4.6, P4.7: the examples of the chapter.
func TestTreeExamples(t *testing.T) {
	c := caseOf(t, "", "bool", "true; false")
	tree, e := cover.Tree(c)
	if want := test(t, nil, "true", leaf(0), leaf(1)); e != api.OK || !same(tree, want) {
		t.Error(show(tree), e)
	}
	if yes, no := walked(t, c, tree, "true"), walked(t, c, tree, "false"); yes != [2]int{0, 1} || no != [2]int{1, 1} {
		t.Error(yes, no)
	}
	for i, x := range []struct{ got, want string }{{agreed(c, tree), ""}, {agreed(c, leaf(1)), "true"}, {agreed(caseOf(t, "", "bool", "_"), leaf(0)), ""}} {
		if x.got != x.want {
			t.Errorf("%d: %s, not %s", i, x.got, x.want)
		}
	}
}

// pile is a type with one constructor around one with two, so that many heads are known from the beginning.
const pile = "type P = P(Q, bool); type Q = N | M(P);"

// P4.6: trees that are formed.
func TestCheckTree(t *testing.T) {
	a, l := []int(nil), leaf(-1)
	for i, x := range []struct {
		c api.CoverCase
		t api.CoverNode
	}{
		{caseA(t), l}, {caseA(t), leaf(2)}, {caseOf(t, "", "int -> int", "x"), leaf(0)},
		{caseOf(t, "", "int", "x"), test(t, a, "1, ~1, 1000000000, ~1000000000, 0", l, l, l, leaf(0), l, l)}, {caseOf(t, "", "int", ""), test(t, a, "1", l, test(t, a, "0, 2", l, l, test(t, a, "3", l, l)))},
		{caseA(t), test(t, a, "Leaf", l, test(t, []int{1}, "0", test(t, []int{0}, "Node", test(t, []int{0, 2}, "Leaf", l, test(t, []int{0, 2, 1}, "1", l, l)), l), l))}, // Node is left
		{caseA(t), test(t, a, "Node, Leaf", test(t, []int{2}, "Leaf, Node", l, l, l), l, l)}, {caseA(t), test(t, a, "Node", test(t, []int{1}, "0", l, test(t, []int{1}, "1, ~1", l, l, l)), l)},
		{caseB(t), test(t, []int{1}, "true", test(t, []int{0}, "false", l, l), test(t, []int{0}, "true", l, l))}, {caseB(t), test(t, []int{0}, "true, false", l, l, test(t, []int{1}, "false", l, l))},
		{caseOf(t, pile, "P", ""), test(t, []int{0}, "N", l, test(t, []int{0, 0, 1}, "true", test(t, []int{0, 0, 0}, "M", test(t, []int{1}, "true", l, l), l), l))},
		{caseOf(t, "type V = V(V, bool);", "V", ""), test(t, slices.Concat(make([]int, 99), []int{1}), "true", l, l)}, {caseC(t), test(t, a, "Some", l, l)},
	} {
		if e := cover.CheckTree(x.c, x.t); e != api.OK || !(&oracle{CoverCase: x.c}).treeFormed(x.t, nil) {
			t.Error(i, show(x.t), e)
		}
	}
}

// P4.6: trees that are not, one thing in each of them.
func TestCheckTreeErrors(t *testing.T) {
	a, l := []int(nil), leaf(-1)
	number, truth, tree, two, some := caseOf(t, "", "int", "x"), caseOf(t, "", "bool", ""), caseA(t), caseB(t), caseOf(t, pile, "P", "x")
	with := func(n api.CoverNode, change func(*api.CoverNode)) api.CoverNode {
		change(&n)
		return n
	}
	node := func(k api.CoverNode) api.CoverNode { return test(t, a, "Node", k, l) }
	for i, x := range []struct {
		c api.CoverCase
		t api.CoverNode
	}{
		{number, leaf(1)}, {number, leaf(-2)}, {number, leaf(1 << 62)}, {truth, leaf(0)}, {number, test(t, a, "1", l, leaf(1))}, {number, test(t, a, "1", leaf(-2), l)},
		{number, with(test(t, a, "1", l, l), func(n *api.CoverNode) { n.Row = 1 })}, {number, with(test(t, a, "1", l, l), func(n *api.CoverNode) { n.Row = -1 })},
		{number, with(l, func(n *api.CoverNode) { n.Path = []int{0} })}, {number, with(l, func(n *api.CoverNode) { n.Kids = []api.CoverNode{l} })}, {number, with(l, func(n *api.CoverNode) { n.Heads = []api.CoverVal{intVal(1)} })},
		{number, test(t, a, "1", l)}, {number, test(t, a, "1", l, l, l)}, {number, test(t, a, "1, 2", l, l)}, {number, with(test(t, a, "1", l, l), func(n *api.CoverNode) { n.Kids = nil })}, {number, with(test(t, a, "1", l, l), func(n *api.CoverNode) { n.Heads = nil })},
		{number, test(t, a, "1, 1", l, l, l)}, {number, test(t, a, "1, 2, 1", l, l, l, l)}, {number, test(t, a, "true", l, l)}, {number, test(t, a, "()", l, l)}, {number, test(t, a, "f", l, l)}, {number, test(t, a, "Leaf", l, l)},
		{number, with(test(t, a, "1", l, l), func(n *api.CoverNode) { n.Heads[0].N = api.TermMost + 1 })}, {number, with(test(t, a, "1", l, l), func(n *api.CoverNode) { n.Heads[0].N = -api.TermMost - 1 })}, {number, with(test(t, a, "1", l, l), func(n *api.CoverNode) { n.Heads[0].Text = "A" })}, {number, with(test(t, a, "1", l, l), func(n *api.CoverNode) { n.Heads[0].Parts = []api.CoverVal{{}} })},
		{number, test(t, []int{0}, "1", l, l)}, {number, test(t, []int{-1}, "1", l, l)}, {number, test(t, a, "1", test(t, a, "2", l, l), l)}, {number, test(t, a, "1", test(t, a, "1", l, l), l)}, {number, test(t, a, "1", l, test(t, a, "1", l, l))}, {number, test(t, a, "1", l, test(t, a, "2, 1", l, l, l))}, {number, test(t, a, "1, 2", l, l, test(t, a, "2", l, l))},
		{truth, test(t, a, "true", l, test(t, a, "false", l, l))}, {truth, test(t, a, "true, false", l, l, test(t, a, "true", l, l))}, {truth, test(t, a, "1", l, l)}, {truth, with(test(t, a, "true", l, l), func(n *api.CoverNode) { n.Heads[0].N = 2 })},
		{caseOf(t, "", "unit", ""), test(t, a, "()", l, l)}, {caseOf(t, "", "cell int", ""), test(t, a, "f", l, l)}, {caseOf(t, "", "int -> int", ""), test(t, a, "1", l, l)}, {caseOf(t, "type T = A(cell int) | B;", "T", ""), test(t, a, "A", test(t, []int{0}, "f", l, l), l)},
		{two, test(t, a, "Two", l, l)}, {two, test(t, []int{2}, "true", l, l)}, {two, test(t, []int{0, 0}, "true", l, l)}, {two, test(t, []int{0}, "true", l, test(t, []int{0}, "false", l, l))},
		{tree, test(t, []int{1}, "0", l, l)}, {tree, test(t, a, "Leaf", test(t, []int{1}, "0", l, l), l)}, {tree, node(test(t, []int{3}, "0", l, l))}, {tree, node(test(t, []int{-1}, "0", l, l))}, {tree, node(test(t, []int{1 << 62}, "0", l, l))}, {tree, node(test(t, []int{0}, "0", l, l))}, {tree, node(test(t, []int{1}, "Leaf", l, l))}, {tree, node(test(t, []int{0, 1}, "0", l, l))}, {tree, node(test(t, []int{1, 0}, "0", l, l))}, {tree, node(test(t, a, "Leaf", l, l))}, {tree, test(t, a, "Leaf", l, test(t, a, "Node", l, l))}, {tree, test(t, a, "Node, Leaf", l, l, test(t, []int{1}, "0", l, l))}, {tree, test(t, a, "Tree", l, l)}, {tree, test(t, a, "Two", l, l)},
		{tree, with(test(t, a, "Node", l, l), func(n *api.CoverNode) { n.Heads[0] = valOf(t, "Node(Leaf, 0, Leaf)") })}, {tree, with(test(t, a, "Node", l, l), func(n *api.CoverNode) { n.Heads[0].N = 1 })}, {tree, with(test(t, a, "Node", l, l), func(n *api.CoverNode) { n.Heads[0].Form = 0 })}, {tree, with(test(t, a, "Node", l, l), func(n *api.CoverNode) { n.Heads[0].Form = api.CoverElse })},
		{tree, node(test(t, []int{1}, "0", l, test(t, []int{1}, "0", l, l)))}, {tree, node(test(t, []int{0}, "Leaf", test(t, []int{0}, "Node", l, l), l))},
		{some, test(t, []int{0, 0}, "P", l, l)}, {some, test(t, []int{0, 0, 0}, "N", l, l)}, {some, test(t, []int{0}, "N", test(t, []int{0, 0, 1}, "true", l, l), l)}, {some, test(t, []int{0}, "N, M", l, l, test(t, []int{0, 0, 1}, "true", l, l))}, {some, test(t, []int{0}, "M", l, test(t, []int{0, 0, 1}, "true", l, l))},
		{caseOf(t, "type V = V(V, bool);", "V", ""), test(t, slices.Concat(make([]int, 100), []int{1}), "true", l, l)}, {caseOf(t, "type V = V(V, bool);", "V", ""), test(t, make([]int, 100), "V", l, l)},
		{api.CoverCase{}, l}, {api.CoverCase{Type: data("A")}, l}, {caseOf(t, "", "int", "true"), l},
	} {
		if e := cover.CheckTree(x.c, x.t); e != api.ErrArg {
			t.Error(i, show(x.t), e)
		}
		if row, tests, e := cover.Walk(x.c, x.t, intVal(0)); row != 0 || tests != 0 || e != api.ErrArg {
			t.Error(i, row, tests, e)
		}
		if got := agreed(x.c, x.t); got != "ErrArg" {
			t.Error(i, got)
		}
		if cover.Check(x.c) == api.OK && (&oracle{CoverCase: x.c}).treeFormed(x.t, nil) && len(x.t.Path) <= 100 {
			t.Error(i, "the oracle has it formed")
		}
	}
}

// broad returns a test of an integer for so many heads, from a number on, with a tree behind it.
func broad(first, heads int, last api.CoverNode) api.CoverNode {
	var n api.CoverNode
	for i := range heads {
		n.Heads = append(n.Heads, intVal(first+i))
		n.Kids = append(n.Kids, leaf(-1))
	}
	n.Kids = append(n.Kids, last)
	return n
}

// long returns so many tests of an integer, one behind the other.
func long(tests int) api.CoverNode {
	n := leaf(-1)
	for i := range tests {
		n = broad(i, 1, n)
	}
	return n
}

// P4.6: trees have at most CoverNodes nodes, and CoverDepth depth; the first integers that no test asks for are found behind all of them.
func TestTreesOfAnySize(t *testing.T) {
	c := caseOf(t, "", "int", "")
	for i, x := range []struct {
		t    api.CoverNode
		want api.Errno
	}{
		{broad(0, 398, leaf(-1)), api.OK}, {broad(0, 399, leaf(-1)), api.ErrArg}, {broad(0, 200, broad(500, 196, leaf(-1))), api.OK}, {broad(0, 200, broad(500, 197, leaf(-1))), api.OK}, {broad(0, 200, broad(500, 198, leaf(-1))), api.ErrArg}, {long(99), api.OK}, {long(100), api.ErrArg}, {broad(0, 50000, leaf(-1)), api.ErrArg},
	} {
		if e := cover.CheckTree(c, x.t); e != x.want {
			t.Error(i, treeNodes(x.t), e)
		}
		wrong := "ErrArg"
		if x.want == api.OK {
			wrong = ""
		}
		if got := agreed(c, x.t); got != wrong {
			t.Error(i, got)
		}
	}
	c = caseOf(t, "", "int", "_")
	tree := broad(-100, 200, broad(150, 100, leaf(-1)))
	for i := range tree.Kids[:200] {
		tree.Kids[i].Row = 0
	}
	if got := agreed(c, tree); got != "100" { // from -100 to 99 there are leaves of the row
		t.Error(got)
	}
	for i := range tree.Kids[200].Kids {
		tree.Kids[200].Kids[i].Row = 0
	}
	if got := agreed(c, tree); got != "" {
		t.Error(got)
	}
	tree.Kids[200].Kids[7].Row = -1
	if got := agreed(c, tree); got != "157" {
		t.Error(got)
	}
}

// P4.6: which tests are passed, and what is not led to its first row, by hand.
func TestWalkAndAgrees(t *testing.T) {
	a := caseA(t)
	good := test(t, nil, "Leaf", leaf(2), test(t, []int{1}, "0, 1", test(t, []int{0}, "Leaf", leaf(0), leaf(-1)), leaf(1), leaf(-1)))
	for v, want := range map[string][2]int{"Leaf": {2, 1}, "Node(Leaf, 0, Leaf)": {0, 3}, "Node(Node(Leaf, 0, Leaf), 0, Leaf)": {-1, 3}, "Node(Leaf, 1, Leaf)": {1, 2}, "Node(Leaf, ~1, Leaf)": {-1, 2}} {
		if got := walked(t, a, good, v); got != want {
			t.Error(v, got)
		}
	}
	change := func(row int, path ...int) api.CoverNode {
		n := test(t, nil, "Leaf", leaf(2), test(t, []int{1}, "0, 1", test(t, []int{0}, "Leaf", leaf(0), leaf(-1)), leaf(1), leaf(-1)))
		at := &n
		for _, i := range path {
			at = &at.Kids[i]
		}
		*at = leaf(row)
		return n
	}
	for i, x := range []struct {
		t    api.CoverNode
		want string
	}{
		{good, ""}, {change(0, 0), "Leaf"}, {change(-1, 0), "Leaf"}, {change(1, 1, 0, 0), "Node(Leaf, 0, Leaf)"}, {change(0, 1, 0), "Node(Node(Leaf, 0, Leaf), 0, Leaf)"}, {change(-1, 1, 0), "Node(Leaf, 0, Leaf)"}, {change(2, 1, 0, 1), "Node(Node(Leaf, 0, Leaf), 0, Leaf)"}, {change(-1, 1, 1), "Node(Leaf, 1, Leaf)"}, {change(0, 1, 2), "Node(Leaf, ~1, Leaf)"}, {change(-1, 1), "Node(Leaf, 0, Leaf)"}, {change(0, 1), "Node(Leaf, 1, Leaf)"}, {change(2), "Node(Leaf, 0, Leaf)"}, {change(-1), "Leaf"},
	} {
		if got := agreed(a, x.t); got != x.want {
			t.Errorf("%d: %s, not %s", i, got, x.want)
		}
	}
	for _, v := range []string{"5", "Node(Leaf, Leaf, 0)", "f"} {
		if row, tests, e := cover.Walk(a, good, valOf(t, v)); row != 0 || tests != 0 || e != api.ErrArg {
			t.Error(v, row, tests, e)
		}
	}
	// Leaves to which nothing is led can have any row: of types without values, and behind all heads.
	opt := caseC(t)
	for i, n := range []api.CoverNode{leaf(0), test(t, nil, "None", leaf(0), leaf(-1)), test(t, nil, "Some", leaf(-1), leaf(0)), test(t, nil, "Some, None", leaf(-1), leaf(0), leaf(-1))} {
		if got := agreed(opt, n); got != "" {
			t.Error(i, got)
		}
	}
	void := caseOf(t, "type Void = Void(Void, bool);", "Void", "_")
	if got := agreed(void, test(t, []int{0, 0, 1}, "true", leaf(-1), leaf(0))); got != "" {
		t.Error(got)
	}
	// The first of all wrong values comes first, at whichever leaf.
	number := caseOf(t, "", "int", "0; 1; _")
	for i, x := range []struct {
		t    api.CoverNode
		want string
	}{
		{test(t, nil, "5, ~1, 1", leaf(0), leaf(0), leaf(1), leaf(2)), "0"}, {test(t, nil, "5, ~1, 1, 0", leaf(0), leaf(0), leaf(1), leaf(0), leaf(2)), "~1"}, {test(t, nil, "5, 1, 0", leaf(0), leaf(1), leaf(0), leaf(2)), "5"}, {test(t, nil, "1, 0", leaf(1), leaf(0), leaf(-1)), "~1"}, {test(t, nil, "~1, 1, 0", leaf(2), leaf(1), leaf(0), leaf(-1)), "2"}, {test(t, nil, "~1, 1, 0", leaf(2), leaf(1), leaf(0), leaf(2)), ""},
	} {
		if got := agreed(number, x.t); got != x.want {
			t.Errorf("%d: %s, not %s", i, got, x.want)
		}
	}
}

// deepTree returns a tree of tests for a head, one within the other: at a path, and then always so much further; their last Kids are a leaf.
func deepTree(t *testing.T, tests int, path, further []int, h string, end, other api.CoverNode) api.CoverNode {
	if tests == 0 {
		return end
	}
	return test(t, path, h, deepTree(t, tests-1, slices.Concat(path, further), further, h, end, other), other)
}

// P4.6: values that are not formed are none: no one is deeper than CoverDepth, or has more than CoverVals nodes.
func TestAgreesOnLargeValues(t *testing.T) {
	chain := caseOf(t, "type P = P(Q); type Q = N | M(P);", "P", "_")
	bulky := caseOf(t, "type S = S(P); type P = P(Q); type Q = A(R) | B(int, int, int) | M(P); type R = R(int);", "S", "_")
	heavy := caseOf(t, "type A = X(B, B, B) | Y(A, A, A); type B = B(C, C, C); type C = C(D, D, D); type D = D(int, int, int);", "A", "_")
	for i, x := range []struct {
		c             api.CoverCase
		tests         int
		path, further []int
		head          string
		nodes         int // of the first value that is led wrong, or 0
	}{
		{chain, 49, []int{0}, []int{0, 0}, "M", 100}, {chain, 50, []int{0}, []int{0, 0}, "M", 0}, {chain, 1, []int{0}, []int{0, 0}, "M", 4},
		{bulky, 2, []int{0, 0}, []int{0, 0}, "M", 9}, {bulky, 47, []int{0, 0}, []int{0, 0}, "M", 99}, {bulky, 48, []int{0, 0}, []int{0, 0}, "M", 102}, {bulky, 49, []int{0, 0}, []int{0, 0}, "M", 0}, // of A(R(0)) the integer would be too deep
		{heavy, 1, nil, []int{0}, "Y", 364}, {heavy, 81, nil, []int{0}, "Y", 19804}, {heavy, 82, nil, []int{0}, "Y", 0}, {heavy, 99, nil, []int{2}, "Y", 0}, {heavy, 81, nil, []int{2}, "Y", 19804},
	} {
		tree := deepTree(t, x.tests, x.path, x.further, x.head, leaf(-1), leaf(0))
		v, e := cover.Agrees(x.c, tree)
		if x.nodes == 0 {
			if e != api.OK || !same(v, api.CoverVal{}) {
				t.Error(i, nodesOf(v), e)
			}
			continue
		}
		if e != api.ErrRule || nodesOf(v) != x.nodes {
			t.Error(i, nodesOf(v), e)
		}
		if row, tests, e := cover.Walk(x.c, tree, v); row != -1 || tests != x.tests || e != api.OK {
			t.Error(i, row, tests, e)
		}
		if n, e := cover.First(x.c, v); n != 0 || e != api.OK {
			t.Error(i, n, e)
		}
	}
}

// P4.6: a value of just CoverVals nodes is one. (Each test adds a constructor, and the least values of its other Parts: 121, 40 or 13 nodes.)
func TestAgreesAtTheLimit(t *testing.T) {
	c := caseOf(t, "type A = X(B, B, B) | Y(A, A, A) | W(A, A, B) | V(A, C, C) | U(A); type B = B(C, C, C); type C = C(D, D, D); type D = D(int, int, int);", "A", "_")
	for _, x := range []struct {
		y, w, v, u int
		nodes      int
	}{
		{80, 2, 4, 6, 19999}, {80, 2, 4, 7, 20000}, {80, 2, 4, 8, 0},
	} {
		tree := leaf(-1)
		heads := slices.Concat(slices.Repeat([]string{"U"}, x.u), slices.Repeat([]string{"V"}, x.v), slices.Repeat([]string{"W"}, x.w), slices.Repeat([]string{"Y"}, x.y))
		for i, h := range heads {
			tree = test(t, make([]int, len(heads)-1-i), h, tree, leaf(0))
		}
		v, e := cover.Agrees(c, tree)
		if x.nodes == 0 && (e != api.OK || !same(v, api.CoverVal{})) || x.nodes > 0 && (e != api.ErrRule || nodesOf(v) != x.nodes) {
			t.Error(x, nodesOf(v), e)
		}
	}
}

// places returns the places that a test can be of behind the steps of a way, with the heads that it can have.
func (o *oracle) places(way []step, path []int) map[string]api.CoverNode {
	out := map[string]api.CoverNode{}
	k, h, there := o.headAt(way, path)
	if !there || len(path) > 4 {
		return out
	}
	if h.Form != 0 {
		con, _ := conOf(o.Datas, k, h.Text)
		for i := range con.Args {
			for key, n := range o.places(way, append(slices.Clip(path), i)) {
				out[key] = n
			}
		}
		return out
	}
	n := api.CoverNode{Path: path}
	heads := few(o.Datas, k)
	if k.Sort == api.TypeInt {
		heads = flat(k)[:len(smallInts)]
	}
	gone := o.gone(way, path)
	for _, h := range heads {
		if !slices.Contains(gone, written(h)) {
			n.Heads = append(n.Heads, h)
		}
	}
	if len(n.Heads) > 0 {
		out[show(path)] = n
	}
	return out
}

// grown returns a formed tree behind the steps of a way, with tests up to a depth; leaves tells the rows.
func (d dice) grown(o *oracle, way []step, depth int, leaves func() api.CoverNode) api.CoverNode {
	can := o.places(way, nil)
	if depth == 0 || len(can) == 0 || d.Intn(5) == 0 {
		return leaves()
	}
	var keys []string
	for key := range can {
		keys = append(keys, key)
	}
	slices.Sort(keys)
	n := can[pick(d, keys)]
	d.Shuffle(len(n.Heads), func(i, j int) { n.Heads[i], n.Heads[j] = n.Heads[j], n.Heads[i] })
	n.Heads = n.Heads[:1+d.Intn(len(n.Heads))]
	for i := range len(n.Heads) + 1 {
		n.Kids = append(n.Kids, d.grown(o, append(slices.Clip(way), step{n, i}), depth-1, leaves))
	}
	return n
}

// wider returns a formed tree with tests in place of some leaves, behind which the same leaves stand.
func (d dice) wider(o *oracle, t api.CoverNode, way []step) api.CoverNode {
	if len(t.Kids) == 0 {
		if d.Intn(3) > 0 {
			return t
		}
		return d.grown(o, way, 1, func() api.CoverNode { return t })
	}
	kids := t.Kids
	t.Kids = nil
	for i, k := range kids {
		t.Kids = append(t.Kids, d.wider(o, k, append(slices.Clip(way), step{t, i})))
	}
	return t
}

// changed returns a tree with something else at one node.
func (d dice) changed(c api.CoverCase, t api.CoverNode) api.CoverNode {
	if len(t.Kids) > 0 && d.Intn(3) > 0 {
		t.Kids = slices.Clone(t.Kids)
		i := d.Intn(len(t.Kids))
		t.Kids[i] = d.changed(c, t.Kids[i])
		return t
	}
	t.Heads, t.Path, t.Kids = slices.Clone(t.Heads), slices.Clone(t.Path), slices.Clone(t.Kids)
	heads := []api.CoverVal{intVal(d.Intn(3)), {Form: api.CoverBool, N: d.Intn(2)}, {Form: api.CoverUnit}, conVal(pick(d, pick(d, c.Datas).Cons).Name), {Form: api.CoverElse}}
	switch d.Intn(7) {
	case 0:
		t.Row = d.Intn(len(c.Rows)+3) - 2
	case 1:
		t.Path = append(t.Path, d.Intn(4)-1)
	case 2:
		t.Path = t.Path[:d.Intn(len(t.Path)+1)]
	case 3:
		t.Heads = append(t.Heads, pick(d, heads))
		t.Kids = append(t.Kids, leaf(-1))
	case 4:
		if len(t.Heads) > 0 {
			t.Heads[d.Intn(len(t.Heads))] = pick(d, heads)
		}
	case 5:
		if len(t.Heads) > 0 && len(t.Kids) > 0 {
			t.Heads = t.Heads[1:]
			t.Kids = t.Kids[1:]
		}
	case 6:
		if len(t.Kids) > 0 {
			t.Kids = t.Kids[1:]
		}
	}
	return t
}

// P4.6: many trees, and the same with something else somewhere.
func TestCheckTreeOfMany(t *testing.T) {
	d := newDice(6)
	met := map[api.Errno]int{}
	for range 4000 {
		c := d.cases()
		o := &oracle{CoverCase: c}
		tree := d.grown(o, nil, 3, func() api.CoverNode { return leaf(d.Intn(len(c.Rows)+1) - 1) })
		if treeNodes(tree) > api.CoverNodes {
			continue
		}
		if e := cover.CheckTree(c, tree); e != api.OK {
			t.Fatal(show(c), show(tree), e)
		}
		for range 3 {
			tree = d.changed(c, tree)
			want := api.ErrArg
			if o.treeFormed(tree, nil) {
				want = api.OK
			}
			if e := cover.CheckTree(c, tree); e != want {
				t.Fatal(show(c), show(tree), e, want)
			}
			met[want]++
		}
	}
	if met[api.OK] < 500 || met[api.ErrArg] < 500 {
		t.Error("few trees of one kind:", met)
	}
}

// patAt returns a pattern for what is known behind the steps of a way, as far as paths of a length go.
func (o *oracle) patAt(way []step, path []int, length int) api.TermPat {
	k, h, _ := o.headAt(way, path)
	if h.Form == 0 || len(path) > length {
		return api.TermPat{Form: api.PatAny}
	}
	p := patFor(h)
	con, _ := conOf(o.Datas, k, h.Text)
	for i := range con.Args {
		p.Parts = append(p.Parts, o.patAt(way, append(slices.Clip(path), i), length))
	}
	return p
}

// patFor returns the pattern that asks for a head.
func patFor(h api.CoverVal) api.TermPat {
	form := map[api.CoverForm]api.TermForm{api.CoverInt: api.PatInt, api.CoverBool: api.PatBool, api.CoverUnit: api.PatUnit, api.CoverCon: api.PatCon}[h.Form]
	return api.TermPat{Form: form, N: h.N, Text: h.Text}
}

// losing returns patterns of those values that have one of the heads by which tests of a way were not left.
func (o *oracle) losing(way []step) [][]api.TermPat {
	var out [][]api.TermPat
	for i, s := range way {
		if s.kid < len(s.test.Heads) {
			continue
		}
		for _, h := range s.test.Heads {
			left := append(slices.Clone(way[:i]), step{api.CoverNode{Path: s.test.Path, Heads: []api.CoverVal{h}}, 0})
			p := o.patAt(left, nil, len(s.test.Path))
			out = append(out, []api.TermPat{p})
		}
	}
	return out
}

// astray reports whether there is a value that a tree does not lead to its first row.
func (o *oracle) astray(t api.CoverNode, way []step) bool {
	if len(t.Kids) > 0 {
		for i, k := range t.Kids {
			if o.astray(k, append(slices.Clip(way), step{t, i})) {
				return true
			}
		}
		return false
	}
	length := 0
	for _, s := range way {
		length = max(length, len(s.test.Path))
	}
	here, not := []api.TermPat{o.patAt(way, nil, length)}, o.losing(way)
	for row := 0; row <= len(o.Rows); row++ {
		all, none := [][]api.TermPat{here}, slices.Clone(not)
		if row < len(o.Rows) {
			all = append(all, []api.TermPat{o.Rows[row]})
		}
		for _, p := range o.Rows[:row] {
			none = append(none, []api.TermPat{p})
		}
		led := row == t.Row || row == len(o.Rows) && t.Row == -1
		if !led && o.exists([]api.TermType{o.Type}, all, none) {
			return true
		}
	}
	return false
}

// P4.6: many trees: where each value is led, and the first one that is led wrong.
func TestAgreesOfMany(t *testing.T) {
	d := newDice(7)
	met := map[string]int{}
	for range 2500 {
		c := d.cases()
		o := newOracle(c, 600)
		tree := d.grown(o, nil, 3, func() api.CoverNode { return leaf(d.Intn(len(c.Rows)+1) - 1) })
		if d.Intn(3) > 0 {
			tree = d.wider(o, o.ruled(), nil)
			if d.Intn(2) == 0 {
				tree = d.changed(c, tree)
			}
		}
		if treeNodes(tree) > 60 || !o.treeFormed(tree, nil) {
			continue
		}
		is := func(v api.CoverVal) bool { row, _ := walk(tree, v); return row != o.first(v) }
		v, e := cover.Agrees(c, tree)
		if e != api.OK && e != api.ErrRule || e == api.OK && !same(v, api.CoverVal{}) || (e == api.ErrRule) != o.astray(tree, nil) || !o.right(v, e == api.OK, is) {
			t.Fatal(show(c), show(tree), written(v), e)
		}
		met["Agrees"+errorText(e)]++
		if nodesOf(v) > o.most {
			met["beyond the list"]++
		}
		for range 30 {
			if len(o.listed) == 0 {
				break
			}
			v := pick(d, o.listed)
			row, tests, e := cover.Walk(c, tree, v)
			wantRow, wantTests := walk(tree, v)
			if row != wantRow || tests != wantTests || e != api.OK {
				t.Fatal(show(c), show(tree), written(v), row, tests, e)
			}
		}
	}
	if met["Agrees"] < 400 || met["AgreesErrRule"] < 400 || met["beyond the list"] > 100 {
		t.Error("few trees of one kind:", met)
	}
}
