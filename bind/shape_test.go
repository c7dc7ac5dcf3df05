package bind_test

import (
	"slices"
	"testing"

	"hearth/api"
	"hearth/bind"
)

// depths is a second way to count environments: from the bodies down, name by name.
func depths(p api.BindProg) []int {
	out := make([]int, len(p.Nodes))
	var walk func(at, size int)
	walk = func(at, size int) {
		out[at] = size
		n := p.Nodes[at]
		for i, kid := range n.Kids {
			inner := size
			switch n.Op {
			case api.TermFun, api.TermShift:
				inner++
			case api.TermLet:
				inner += i
			case api.TermMatch:
				if i > 0 {
					inner += names(n.Pats[i-1])
				}
			}
			walk(kid, inner)
		}
	}
	for _, body := range p.Funs {
		walk(body, 1)
	}
	return out
}

// closedBy tells by the sizes whether a program is closed.
func closedBy(p api.BindProg, sizes []int) bool {
	for i, n := range p.Nodes {
		if n.Op == api.TermName && n.N >= sizes[i] {
			return false
		}
	}
	return true
}

// P5.3: the sizes of the chapter's example, and of each node that binds.
func TestDepths(t *testing.T) {
	unit, name := node(api.TermUnit, 0), pat(api.PatName, 0)
	three := []api.BindCon{con("Three", 3)}
	for i, c := range []struct {
		p    api.BindProg
		want []int
	}{
		{boundOf(t, example), []int{1, 1, 2, 2, 2, 2, 2, 1, 1, 1, 3, 3, 3, 3, 3, 1, 2, 2, 2}},
		{oneFun(unit), []int{1}},
		{row(unit, unit, unit), []int{1, 1, 1}},
		{oneFun(node(api.TermFun, 0, 1), unit), []int{1, 2}},
		{oneFun(node(api.TermShift, 0, 1), unit), []int{1, 2}},
		{oneFun(node(api.TermReset, 0, 1), unit), []int{1, 1}},
		{oneFun(node(api.TermLet, 0, 1, 2), unit, unit), []int{1, 1, 2}},
		{oneFun(node(api.TermLet, 0, 2, 1), unit, unit), []int{1, 2, 1}},
		{oneFun(node(api.TermApply, 0, 2, 1), unit, unit), []int{1, 1, 1}},
		{oneFun(node(api.TermIf, 0, 1, 2, 3), unit, unit, unit), []int{1, 1, 1, 1}},
		{oneFun(matching(pats(name, pat(api.PatAny, 0)), 3, 1, 2), unit, unit, unit), []int{1, 2, 1, 1}},
		{withCons(oneFun(matching(pats(pat(api.PatCon, 0, name, pat(api.PatInt, 1), pat(api.PatCon, 0, name, name, pat(api.PatUnit, 0))), pat(api.PatCon, 0, name, name, pat(api.PatBool, 0))), 1, 2, 3), unit, unit, unit), three...), []int{1, 1, 4, 3}},
		{api.BindProg{Nodes: []api.BindNode{node(api.TermFun, 0, 2), node(api.TermLet, 0, 3, 4), node(api.TermShift, 0, 5), unit, unit, unit}, Funs: []int{1, 0}}, []int{1, 1, 2, 1, 2, 3}},
	} {
		if l, e := bind.Depths(c.p); e != api.OK || !slices.Equal(l, c.want) {
			t.Error(i, l, e)
		}
	}
}

// P5.3: places are below the size of the environment; functions are always there.
func TestClosed(t *testing.T) {
	unit, name := node(api.TermUnit, 0), pat(api.PatName, 0)
	for i, c := range []struct {
		p    api.BindProg
		want bool
	}{
		{boundOf(t, example), true}, {oneFun(unit), true}, {oneFun(named(0)), true}, {oneFun(named(1)), false}, {oneFun(named(29)), false}, {oneFun(named(-1)), true}, {row(named(0), named(1)), false}, {row(named(0), named(-2)), true}, {row(named(1), named(0)), false},
		{oneFun(node(api.TermFun, 0, 1), named(1)), true}, {oneFun(node(api.TermFun, 0, 1), named(2)), false},
		{oneFun(node(api.TermLet, 0, 1, 2), unit, named(1)), true}, {oneFun(node(api.TermLet, 0, 1, 2), named(1), unit), false}, {oneFun(node(api.TermLet, 0, 1, 2), named(0), named(2)), false},
		{oneFun(matching(pats(name, pat(api.PatAny, 0)), 1, 2, 3), named(0), named(1), named(0)), true}, {oneFun(matching(pats(name, pat(api.PatAny, 0)), 1, 2, 3), named(0), named(1), named(1)), false}, {oneFun(matching(pats(name), 1, 2), named(1), named(0)), false},
		{oneFun(node(api.TermInt, 7)), true}, {oneFun(node(api.TermOut, 3, 1), named(0)), true}, {withCons(oneFun(node(api.TermCon, 2)), letters(3)...), true},
	} {
		if is, e := bind.Closed(c.p); e != api.OK || is != c.want {
			t.Error(i, is, e)
		}
	}
}

// P5.3: many programs, whatever the order of their nodes.
func TestDepthsOfMany(t *testing.T) {
	d := newDice(6)
	kinds := map[bool]int{}
	for range 3000 {
		p := d.prog(pick(d, []plan{few(), some(), open(), {funs: 3, depth: 3}}))
		sizes, e := bind.Depths(p)
		if e != api.OK || !slices.Equal(sizes, depths(p)) {
			t.Fatal(show(p), sizes, e)
		}
		is, e := bind.Closed(p)
		kinds[is]++
		if e != api.OK || is != closedBy(p, sizes) {
			t.Fatal(show(p), is, e)
		}
	}
	if kinds[true] < 500 || kinds[false] < 500 {
		t.Error("the programs are all of one kind:", kinds)
	}
}

// P5.3: the greatest environment of a program.
func TestGreatestDepth(t *testing.T) {
	three, two, name := 0, 1, pat(api.PatName, 0)
	full := pat(api.PatCon, three, pat(api.PatCon, three, name, name, name), pat(api.PatCon, three, name, name, name), pat(api.PatCon, two, name, name))
	p := withCons(oneFun(), con("Three", 3), con("Two", 2))
	for i := range 149 {
		p.Nodes = append(p.Nodes, matching(pats(full), 2*i+1, 2*i+2), node(api.TermUnit, 0))
	}
	p.Nodes = append(p.Nodes, named(29))
	sizes, e := bind.Depths(p)
	if is, f := bind.Closed(p); e != api.OK || f != api.OK || !is || sizes[298] != 1+8*149 || sizes[297] != 1+8*148 {
		t.Error(sizes, e, is, f)
	}
	if u, e := bind.Body(p, 0); e != api.ErrLong || !same(u, api.Term{}) {
		t.Error(show(u), e)
	}
}
