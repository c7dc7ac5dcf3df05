package cover_test

import (
	"math"
	"slices"
	"strings"
	"testing"

	"hearth/api"
	"hearth/cover"
)

// unformedCases returns cases of which some part is not even formed.
func unformedCases(t *testing.T) []api.CoverCase {
	t.Helper()
	with := func(change func(*api.CoverCase)) api.CoverCase {
		c := caseOf(t, shop, "Mix", "Empty; Unit(_, Box(f, c, _), x); _")
		change(&c)
		return c
	}
	kinds := []api.TermType{{}, {Sort: -1}, {Sort: api.TypeHole}, made(api.TypeCell, api.TermType{Sort: api.TypeHole, N: 3}), {Sort: api.TypeInt, N: 1}, made(api.TypeFun, made(api.TypeInt)), {Sort: api.TypeData}, data("mix"), made(api.TypeData, made(api.TypeInt)), {Sort: api.TypeHole + 1}, {Sort: math.MaxInt}}
	long := made(api.TypeInt)
	for range 12 {
		long = made(api.TypeCell, long)
	}
	ringKind := made(api.TypeFun, long, long)
	ringKind.Parts[1] = ringKind
	pats := []api.TermPat{{}, {Form: -1}, {Form: api.PatCon + 1}, {Form: api.PatAny, N: 1}, {Form: api.PatName}, {Form: api.PatName, Text: "in"}, {Form: api.PatCon, Text: "empty"}, {Form: api.PatCon, Text: "Empty", N: 1}, {Form: api.PatCon, Text: "Pair", Parts: []api.TermPat{{Form: api.PatInt, N: math.MinInt}, {Form: api.PatAny}}}}
	ringPat := api.TermPat{Form: api.PatCon, Text: "Unit", Parts: []api.TermPat{{Form: api.PatAny}, {Form: api.PatAny}, {}}}
	ringPat.Parts[2] = ringPat
	twice := patOf(t, "Unit(x, y, z)")
	twice.Parts[2].Text = "x"
	out := []api.CoverCase{
		{}, with(func(c *api.CoverCase) { c.Datas = make([]api.TermData, 100000) }), with(func(c *api.CoverCase) { c.Rows = make([]api.TermPat, 100000) }),
		with(func(c *api.CoverCase) {
			c.Datas = append(c.Datas, api.TermData{Name: "E", Cons: []api.TermConDef{{Name: "E"}}})
		}), // five data types
		with(func(c *api.CoverCase) { c.Datas[0].Cons = nil }), with(func(c *api.CoverCase) { c.Datas[0].Name = "void" }), with(func(c *api.CoverCase) { c.Datas[1].Cons[0].Name = "" }), with(func(c *api.CoverCase) { c.Datas = nil }),
		with(func(c *api.CoverCase) {
			c.Datas[1].Cons = append(c.Datas[1].Cons, slices.Repeat([]api.TermConDef{{Name: "X"}}, 4)...)
		}),
		with(func(c *api.CoverCase) { c.Datas[3].Cons[2].Args = append(c.Datas[3].Cons[2].Args, made(api.TypeInt)) }),
	}
	for _, k := range append(kinds, long, ringKind) {
		out = append(out, with(func(c *api.CoverCase) { c.Type, c.Rows = k, nil }), with(func(c *api.CoverCase) { c.Datas[3].Cons[1].Args[0] = k }))
	}
	for _, p := range append(pats, ringPat, twice) {
		out = append(out, with(func(c *api.CoverCase) { c.Rows[1] = p }))
	}
	return out
}

// P4.1 to P4.7, P0.12: cases that are not as defined, for all functions.
func TestUnformedCases(t *testing.T) {
	for i, c := range unformedCases(t) {
		v := valOf(t, "Empty")
		if e := cover.Check(c); e != api.ErrArg {
			t.Error(i, e)
		}
		if is, e := cover.Is(c, v); is || e != api.ErrArg {
			t.Error(i, is, e)
		}
		if l, e := cover.Useless(c); len(l) > 0 || e != api.ErrArg {
			t.Error(i, l, e)
		}
		if n, e := cover.Tree(c); !same(n, api.CoverNode{}) || e != api.ErrArg {
			t.Error(i, show(n), e)
		}
		if e := cover.CheckTree(c, leaf(-1)); e != api.ErrArg {
			t.Error(i, e)
		}
		if row, tests, e := cover.Walk(c, leaf(-1), v); row != 0 || tests != 0 || e != api.ErrArg {
			t.Error(i, row, tests, e)
		}
		for j, got := range []string{bound(cover.Match(c, 0, v)), numbered(cover.First(c, v)), valued(cover.Missing(c)), valued(cover.Sample(c, 0)), valued(cover.Both(c, 0, 1)), agreed(c, leaf(-1))} {
			if got != "ErrArg" {
				t.Error(i, j, got)
			}
		}
	}
}

// unformedVals returns values that are not formed, some of which have no end.
func unformedVals() []api.CoverVal {
	ring := conVal("Node", conVal("Leaf"), intVal(0), conVal("Leaf"))
	ring.Parts[2] = ring
	wide := conVal("Leaf")
	for range 60 {
		wide = conVal("Node", wide, wide, wide)
	}
	return []api.CoverVal{ring, wide, {}, {Form: -1}, {Form: api.CoverElse + 1}, {Form: math.MaxInt}, intVal(math.MaxInt), intVal(math.MinInt), {Form: api.CoverCon}, conVal("leaf"), conVal(strings.Repeat("L", 100000)), {Form: api.CoverElse, Text: "f"}, {Form: api.CoverElse, Parts: []api.CoverVal{{}}}, conVal("Leaf", make([]api.CoverVal, 1000000)...), conVal("Node", conVal("Leaf"), intVal(0), api.CoverVal{})}
}

// P4.1, P4.2, P4.6, P0.12: values that are not formed.
func TestUnformedValues(t *testing.T) {
	c := caseA(t)
	tree, _ := cover.Tree(c)
	for i, v := range unformedVals() {
		if is, e := cover.Is(c, v); is || e != api.ErrArg {
			t.Error(i, is, e)
		}
		if row, tests, e := cover.Walk(c, tree, v); row != 0 || tests != 0 || e != api.ErrArg {
			t.Error(i, row, tests, e)
		}
		for row := range 3 {
			if got := bound(cover.Match(c, row, v)); got != "ErrArg" {
				t.Error(i, got)
			}
		}
		if got := numbered(cover.First(c, v)); got != "ErrArg" {
			t.Error(i, got)
		}
	}
}

// P4.6, P0.12: trees without an end, or with lists of any length.
func TestTreesWithoutEnd(t *testing.T) {
	c := caseOf(t, pile, "P", "_")
	ring := test(t, []int{0}, "N", leaf(0), leaf(0))
	ring.Kids[1] = ring
	deep := test(t, []int{0}, "M", leaf(0), leaf(0))
	deep.Kids[0] = deep
	wide := leaf(0)
	for range 60 {
		wide = test(t, []int{0}, "N, M", wide, wide, wide)
	}
	long := test(t, make([]int, 1000000), "N", leaf(0), leaf(0))
	heads := api.CoverNode{Heads: make([]api.CoverVal, 1000000), Kids: make([]api.CoverNode, 1000001)}
	for i := range heads.Kids {
		heads.Kids[i] = heads
	}
	kids := api.CoverNode{Kids: make([]api.CoverNode, 1000000)}
	ringHead := conVal("N", conVal("N"))
	ringHead.Parts[0] = ringHead
	parts := api.CoverNode{Heads: []api.CoverVal{ringHead}, Kids: []api.CoverNode{leaf(0), leaf(0)}, Path: []int{0}}
	for i, n := range []api.CoverNode{ring, deep, wide, long, heads, kids, parts} {
		if e := cover.CheckTree(c, n); e != api.ErrArg {
			t.Error(i, e)
		}
		if row, tests, e := cover.Walk(c, n, valOf(t, "P(N, true)")); row != 0 || tests != 0 || e != api.ErrArg {
			t.Error(i, row, tests, e)
		}
		if v, e := cover.Agrees(c, n); !same(v, api.CoverVal{}) || e != api.ErrArg {
			t.Error(i, e)
		}
	}
}

// P4.1, P0.12: a pattern, a value, a tree and a type of each function's arguments, with any fields.
func TestAnyFields(t *testing.T) {
	d := newDice(11)
	numbers := []int{math.MinInt, -api.TermMost - 1, -1, 0, 1, 2, 7, api.TermMost + 1, math.MaxInt}
	texts := []string{"", "x", "A", "Aa", "Ba", "let", "\xff", "Cc"}
	met := map[api.Errno]int{}
	for range 3000 {
		c := d.cases()
		for range d.Intn(2) {
			switch d.Intn(6) {
			case 0:
				c.Type = api.TermType{Sort: api.TermSort(pick(d, numbers)), N: pick(d, numbers), Text: pick(d, texts)}
			case 1:
				c.Rows = append(c.Rows, api.TermPat{Form: api.TermForm(pick(d, numbers)), N: pick(d, numbers), Text: pick(d, texts)})
			case 2:
				c.Datas[0].Name = pick(d, texts)
			case 3:
				c.Datas[0].Cons[0].Name = pick(d, texts)
			case 4:
				c.Datas = c.Datas[1:]
			case 5:
				c.Datas[0].Cons[0].Args = append(c.Datas[0].Cons[0].Args, data(pick(d, texts)))
			}
		}
		e := cover.Check(c)
		met[e]++
		v := api.CoverVal{Form: api.CoverForm(pick(d, numbers)), N: pick(d, numbers), Text: pick(d, texts)}
		n := api.CoverNode{Row: pick(d, numbers), Path: slices.Repeat([]int{pick(d, numbers)}, d.Intn(3)), Heads: slices.Repeat([]api.CoverVal{v}, d.Intn(3)), Kids: make([]api.CoverNode, d.Intn(4))}
		a, b := pick(d, numbers), pick(d, numbers)
		before := show(c) + show(v) + show(n)
		results := func() string {
			is, e1 := cover.Is(c, v)
			l, e2 := cover.Match(c, a, v)
			row, e3 := cover.First(c, v)
			m, e4 := cover.Missing(c)
			s, e5 := cover.Sample(c, a)
			w, e6 := cover.Both(c, a, b)
			u, e7 := cover.Useless(c)
			tree, e8 := cover.Tree(c)
			r, tests, e9 := cover.Walk(c, n, v)
			g, e10 := cover.Agrees(c, n)
			all := []api.Errno{e1, e2, e3, e4, e5, e6, e7, e8, e9, e10, cover.CheckTree(c, n)}
			for _, f := range all {
				if (e != api.OK) && f != api.ErrArg {
					t.Fatal(before, all)
				}
			}
			return show([]any{is, l, row, m, s, w, u, tree, r, tests, g, all})
		}
		if results() != results() || show(c)+show(v)+show(n) != before {
			t.Fatal(before)
		}
	}
	if met[api.OK] < 500 || met[api.ErrArg] < 500 {
		t.Error("few cases of one kind:", met)
	}
}

// spoil changes all memory of a value.
func spoil(v *api.CoverVal) {
	for i := range v.Parts {
		spoil(&v.Parts[i])
	}
	if cap(v.Parts) > len(v.Parts) {
		v.Parts = append(v.Parts, api.CoverVal{Form: -1})
	}
	*v = api.CoverVal{Form: -1}
}

// apart reports whether the Parts of a value share no memory.
func apart(v api.CoverVal) bool {
	for i := range v.Parts {
		before := show(v.Parts[i+1:])
		w := v.Parts[i]
		if !apart(w) {
			return false
		}
		spoil(&v.Parts[i])
		if show(v.Parts[i+1:]) != before {
			return false
		}
	}
	return true
}

// R4: results share no memory with arguments, or with each other.
func TestValuesShareNothing(t *testing.T) {
	d := newDice(12)
	for range 1500 {
		c := d.cases()
		before := show(c)
		var values []api.CoverVal
		v, _ := cover.Missing(c)
		values = append(values, v)
		for row := range c.Rows {
			s, _ := cover.Sample(c, row)
			b, _ := cover.Both(c, row, 0)
			values = append(values, s, b)
		}
		wrong, _ := cover.Agrees(c, leaf(-1))
		values = append(values, wrong)
		for i := range values {
			rest := show(values[i+1:])
			w := values[i]
			if !apart(w) {
				t.Fatal(before, "parts share memory")
			}
			spoil(&values[i])
			if show(values[i+1:]) != rest || show(c) != before {
				t.Fatal(before, "results share memory")
			}
		}
		o := newOracle(c, 100)
		if len(o.listed)*len(c.Rows) == 0 {
			continue
		}
		v = pick(d, o.listed)
		given := show(v)
		l, _ := cover.Match(c, d.Intn(len(c.Rows)), v)
		for i := range l {
			rest := show(l[i+1:])
			spoil(&l[i].Val)
			if show(l[i+1:]) != rest || show(v) != given {
				t.Fatal(before, given, "what names mean shares memory")
			}
		}
	}
}

// R4: nor do the Parts of a value in which the same one stands twice.
func TestEqualPartsShareNothing(t *testing.T) {
	c := caseOf(t, "type T = T(U, U); type U = U(V, V); type V = V(int);", "T", "x; T(_, _)")
	wrong, e := cover.Agrees(c, leaf(1))
	first, f := cover.Sample(c, 0)
	second, g := cover.Both(c, 0, 1)
	c.Rows = nil
	third, h := cover.Missing(c)
	if e != api.ErrRule || f != api.OK || g != api.OK || h != api.OK {
		t.Fatal(e, f, g, h)
	}
	for i, v := range []api.CoverVal{wrong, first, second, third} {
		if written(v) != "T(U(V(0), V(0)), U(V(0), V(0)))" || !apart(v) {
			t.Error(i, written(v))
		}
	}
}

// R4: what is bound to a name is no part of the value that was given.
func TestMatchSharesNothing(t *testing.T) {
	c := caseA(t)
	v := valOf(t, "Node(Leaf, 0, Node(Node(Leaf, 1, Leaf), 2, Leaf))")
	given := show(v)
	l, e := cover.Match(c, 0, v)
	if e != api.OK || len(l) != 1 {
		t.Fatal(l, e)
	}
	spoil(&l[0].Val)
	if show(v) != given {
		t.Error("the value was changed")
	}
}

// spoilTree changes all memory of a tree.
func spoilTree(n *api.CoverNode) {
	for i := range n.Kids {
		spoilTree(&n.Kids[i])
	}
	for i := range n.Path {
		n.Path[i] = -7
	}
	if cap(n.Path) > len(n.Path) {
		n.Path = append(n.Path, -8)
	}
	for i := range n.Heads {
		spoil(&n.Heads[i])
	}
	if cap(n.Heads) > len(n.Heads) {
		n.Heads = append(n.Heads, api.CoverVal{Form: -1})
	}
	*n = api.CoverNode{Row: -9}
}

// treeApart reports whether the Kids of a tree share no memory with each other, or with the node.
func treeApart(n api.CoverNode) bool {
	for i := range n.Kids {
		own := show(n.Path) + show(n.Heads) + show(n.Kids[i+1:])
		k := n.Kids[i]
		if !treeApart(k) {
			return false
		}
		spoilTree(&n.Kids[i])
		if show(n.Path)+show(n.Heads)+show(n.Kids[i+1:]) != own {
			return false
		}
	}
	return true
}

// R4: nodes of a tree share no memory.
func TestTreesShareNothing(t *testing.T) {
	d := newDice(13)
	for range 1000 {
		c := d.cases()
		before := show(c)
		tree, e := cover.Tree(c)
		again, f := cover.Tree(c)
		if !same(tree, again) || e != f {
			t.Fatal(before, "two results differ")
		}
		if !treeApart(tree) {
			t.Fatal(before, "nodes share memory")
		}
		spoilTree(&tree)
		if third, _ := cover.Tree(c); !same(third, again) || show(c) != before {
			t.Fatal(before, "results share memory")
		}
	}
}

// P0.12: large types, rows and trees together. (A search that is done again for each part, or each row, would not end in time.)
func TestLargest(t *testing.T) {
	c := caseOf(t, "type A = X(B, B, B) | Y(A, A, A) | Z(A, A, A); type B = V(C, C, C) | W(A, B, C); type C = T(D, D, D) | U(int, C, int); type D = R(int, int, int) | S(bool, bool, bool);", "A",
		"Y(_, _, X(V(_, _, _), _, _)); Y(Z(_, _, _), _, _); Y(_, Z(_, x, _), _); Y(_, _, _)")
	for i := range c.Rows {
		v, e := cover.Sample(c, i)
		if n, f := cover.First(c, v); e != api.OK || f != api.OK || n != i {
			t.Error(i, n, e, f)
		}
	}
	for _, last := range []int{0, 1, 2} {
		for _, tests := range []int{1, 60, 80, 99} {
			tree := deepTree(t, tests, nil, []int{last}, "Y", leaf(0), leaf(-1))
			for at := &tree; len(at.Kids) > 0; at = &at.Kids[0] {
				at.Heads = append(at.Heads, conVal("X"))
				at.Kids = []api.CoverNode{at.Kids[0], leaf(1), leaf(2)}
			}
			v, e := cover.Agrees(c, tree)
			row, _, f := cover.Walk(c, tree, v)
			n, g := cover.First(c, v)
			if g == api.ErrNone {
				n = -1
			}
			if e != api.ErrRule || f != api.OK || row == n {
				t.Error(last, tests, row, n, e, f)
			}
		}
	}
}
