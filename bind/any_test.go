package bind_test

import (
	"slices"
	"strings"
	"testing"

	"hearth/api"
	"hearth/bind"
)

// roomy returns what a function makes of each of some things, with room behind them, which a bad copy would share.
func roomy[T any](list []T, copied func(T) T) []T {
	out := make([]T, 0, len(list)+2)
	for _, x := range list {
		out = append(out, copied(x))
	}
	return out
}

func itself[T any](x T) T { return x }

func deepCopy(p api.BindProg) api.BindProg {
	return api.BindProg{Nodes: roomy(p.Nodes, copyOfNode), Funs: roomy(p.Funs, itself), Main: p.Main, Cons: roomy(p.Cons, itself)}
}

func copyOfNode(n api.BindNode) api.BindNode {
	return api.BindNode{Op: n.Op, N: n.N, Kids: roomy(n.Kids, itself), Pats: roomy(n.Pats, copyOfPat)}
}

func copyOfPat(p api.TermPat) api.TermPat {
	p.Parts = roomy(p.Parts, copyOfPat)
	return p
}

func copyOfTerm(t api.Term) api.Term {
	t.Kids, t.Pats = roomy(t.Kids, copyOfTerm), roomy(t.Pats, copyOfPat)
	return t
}

func copyOfType(t api.TermType) api.TermType {
	t.Parts = roomy(t.Parts, copyOfType)
	return t
}

func copyOfModule(m api.TermModule) api.TermModule {
	m.Datas = roomy(m.Datas, func(d api.TermData) api.TermData {
		d.Cons = roomy(d.Cons, func(c api.TermConDef) api.TermConDef {
			c.Args = roomy(c.Args, copyOfType)
			return c
		})
		return d
	})
	m.Funs = roomy(m.Funs, func(f api.TermFunDef) api.TermFunDef {
		f.From, f.To, f.Body = copyOfType(f.From), copyOfType(f.To), copyOfTerm(f.Body)
		return f
	})
	return m
}

// slots returns where the elements of a list stand, with the room behind them.
func slots[T any](list []T) []any {
	var out []any
	for i := range list[:cap(list)] {
		out = append(out, &list[:cap(list)][i])
	}
	return out
}

func patSlots(l []api.TermPat) []any {
	out := slots(l)
	for _, p := range l {
		out = append(out, patSlots(p.Parts)...)
	}
	return out
}

func termSlots(l []api.Term) []any {
	out := slots(l)
	for _, t := range l {
		out = slices.Concat(out, termSlots(t.Kids), patSlots(t.Pats))
	}
	return out
}

func typeSlots(l []api.TermType) []any {
	out := slots(l)
	for _, t := range l {
		out = append(out, typeSlots(t.Parts)...)
	}
	return out
}

// allSlots returns where the elements of all lists within a value stand: two lists share memory just if a place is met twice.
func allSlots(x any) []any {
	var out []any
	switch v := x.(type) {
	case []int:
		return slots(v)
	case api.Term:
		return slices.Concat(termSlots(v.Kids), patSlots(v.Pats))
	case api.BindProg:
		out = slices.Concat(slots(v.Nodes), slots(v.Funs), slots(v.Cons))
		for _, n := range v.Nodes {
			out = slices.Concat(out, slots(n.Kids), patSlots(n.Pats))
		}
	case api.TermModule:
		out = slices.Concat(slots(v.Datas), slots(v.Funs))
		for _, d := range v.Datas {
			out = append(out, slots(d.Cons)...)
			for _, c := range d.Cons {
				out = append(out, typeSlots(c.Args)...)
			}
		}
		for _, f := range v.Funs {
			out = slices.Concat(out, typeSlots(f.From.Parts), typeSlots(f.To.Parts), allSlots(f.Body))
		}
	}
	return out
}

// apart reports whether no two lists of some values share memory.
func apart(values ...any) bool {
	met := map[any]bool{}
	for _, v := range values {
		for _, s := range allSlots(v) {
			if met[s] {
				return false
			}
			met[s] = true
		}
	}
	return true
}

// roomOf writes a program with the room behind its lists.
func roomOf(p api.BindProg) string {
	p.Nodes = slices.Clone(p.Nodes[:cap(p.Nodes)])
	for i, n := range p.Nodes {
		p.Nodes[i].Kids, p.Nodes[i].Pats = n.Kids[:cap(n.Kids)], n.Pats[:cap(n.Pats)]
	}
	p.Funs, p.Cons = p.Funs[:cap(p.Funs)], p.Cons[:cap(p.Cons)]
	return show(p)
}

// results returns what all functions return for two programs.
func results(p, q api.BindProg) []any {
	depths, _ := bind.Depths(p)
	is, _ := bind.Closed(p)
	body, _ := bind.Body(p, 0)
	module, _ := bind.Module(p)
	canon, _ := bind.Canon(p)
	join, _ := bind.Join(p, q)
	self, _ := bind.Join(p, p)
	trim, _ := bind.Trim(p)
	return []any{bind.Check(p), depths, is, body, module, canon, join, self, trim}
}

// R4, R8: no argument is changed, results have memory of their own, and are the same when asked for again.
func TestMemory(t *testing.T) {
	d := newDice(2)
	for range 400 {
		p, q := deepCopy(d.prog(few())), deepCopy(d.prog(open()))
		before := roomOf(p) + roomOf(q)
		first, second := results(p, q), results(p, q)
		if !same(first, second) {
			t.Fatal(show(p), show(q), "is not the same again")
		}
		if !apart(slices.Concat([]any{p, q}, first, second)...) {
			t.Fatal(show(p), show(q), "memory is shared")
		}
		if roomOf(p)+roomOf(q) != before {
			t.Fatal(before, "was changed")
		}
	}
}

func TestMemoryOfBind(t *testing.T) {
	d := newDice(3)
	for range 1000 {
		m := copyOfModule(d.module())
		before := show(m)
		p, e := bind.Bind(m)
		q, f := bind.Bind(m)
		if !same(p, q) || e != f || !apart(m, p, q) {
			t.Fatal(before, show(p), show(q), e, f)
		}
		if show(m) != before {
			t.Fatal(before, "was changed")
		}
	}
}

// R3: nil and empty lists are the same.
func TestEmptyLists(t *testing.T) {
	empty := func(p api.BindProg) api.BindProg {
		p = deepCopy(p)
		for i, n := range p.Nodes {
			if len(n.Kids) == 0 {
				p.Nodes[i].Kids = []int{}
			}
			if len(n.Pats) == 0 {
				p.Nodes[i].Pats = []api.TermPat{}
			}
		}
		return p
	}
	p := boundOf(t, example)
	q := boundOf(t, mainWith("", "()"))
	q.Cons = []api.BindCon{}
	for _, r := range []api.BindProg{empty(p), empty(q)} {
		checkAs(t, "with empty lists", r, true)
	}
	a, e := bind.Join(p, q)
	b, f := bind.Join(empty(p), empty(q))
	if !same(a, b) || e != api.OK || f != api.OK {
		t.Error(show(a), show(b), e, f)
	}
}

// unformedProgs returns programs that are not formed, among them some without an end.
func unformedProgs() []api.BindProg {
	unit := node(api.TermUnit, 0)
	ring := pat(api.PatCon, 0, pat(api.PatAny, 0))
	ring.Parts[0] = ring
	chain := pat(api.PatAny, 0)
	for range 100000 {
		chain = pat(api.PatCon, 0, chain)
	}
	one := []api.BindCon{con("A", 1)}
	long := strings.Repeat("a", 1000000)
	return []api.BindProg{
		{}, {Nodes: []api.BindNode{unit}}, {Funs: []int{0}}, {Nodes: []api.BindNode{{}}, Funs: []int{0}}, oneFun(node(-1, 0)), oneFun(node(api.TermPause+1, 0)), oneFun(node(1<<62, 0)), oneFun(node(-1<<63, 0)),
		oneFun(named(-1 << 63)), oneFun(named(1<<63 - 1)), oneFun(named(30)), oneFun(named(-2)), oneFun(node(api.TermGet, 0, 0)), oneFun(node(api.TermGet, 0, -1)), oneFun(node(api.TermGet, 0, 1<<63-1)), oneFun(node(api.TermCon, 0)),
		withCons(oneFun(matching(pats(ring), 1, 2), unit, unit), one...), withCons(oneFun(matching(pats(chain), 1, 2), unit, unit), one...), oneFun(matching(nil, 1), unit),
		withCons(oneFun(unit), con(long, 0)), withCons(oneFun(unit), con("A"+long, 0)), withCons(oneFun(unit), make([]api.BindCon, 1000000)...), withCons(oneFun(unit), con("A", 1<<62)),
		oneFun(make([]api.BindNode, 1000000)...), oneFun(node(api.TermGet, 0, make([]int, 1000000)...)), oneFun(api.BindNode{Op: api.TermMatch, Pats: make([]api.TermPat, 1000000)}, unit), {Nodes: []api.BindNode{unit}, Funs: make([]int, 1000000)},
		oneFun(matching(make([]api.TermPat, 1000000), make([]int, 1000001)...)), withCons(oneFun(matching(pats(pat(api.PatCon, 0, make([]api.TermPat, 1000000)...)), 1, 2), unit, unit), one...),
		{Nodes: []api.BindNode{unit}, Funs: []int{0}, Main: 1}, {Nodes: []api.BindNode{unit}, Funs: []int{0}, Main: -1 << 63}, {Nodes: []api.BindNode{unit, unit}, Funs: []int{0}},
	}
}

// P0.12: programs that are not formed, with zero values beside the error.
func TestUnformed(t *testing.T) {
	good := boundOf(t, example)
	for i, p := range unformedProgs() {
		if e := bind.Check(p); e != api.ErrArg {
			t.Error(i, "Check:", e)
		}
		if l, e := bind.Depths(p); e != api.ErrArg || len(l) > 0 {
			t.Error(i, "Depths:", l, e)
		}
		if is, e := bind.Closed(p); e != api.ErrArg || is {
			t.Error(i, "Closed:", is, e)
		}
		for _, fun := range []int{0, -1, 1 << 62} {
			if u, e := bind.Body(p, fun); e != api.ErrArg || !same(u, api.Term{}) {
				t.Error(i, "Body:", u, e)
			}
		}
		if m, e := bind.Module(p); e != api.ErrArg || !same(m, api.TermModule{}) {
			t.Error(i, "Module:", m, e)
		}
		if q, e := bind.Canon(p); e != api.ErrArg || !noProg(q) {
			t.Error(i, "Canon:", q, e)
		}
		for _, pair := range [][2]api.BindProg{{p, good}, {good, p}, {p, p}, {p, units(300)}, {units(300), p}} {
			if q, e := bind.Join(pair[0], pair[1]); e != api.ErrArg || !noProg(q) {
				t.Error(i, "Join:", q, e)
			}
		}
		if q, e := bind.Trim(p); e != api.ErrArg || !noProg(q) {
			t.Error(i, "Trim:", q, e)
		}
	}
}

// P0.12: modules that are not formed.
func TestUnformedModules(t *testing.T) {
	changed := func(change func(*api.TermModule)) api.TermModule {
		m := copyOfModule(moduleOf(t, example))
		change(&m)
		return m
	}
	ring := api.Term{Op: api.TermGet, Kids: make([]api.Term, 1)}
	ring.Kids[0] = ring
	for i, m := range []api.TermModule{
		{}, changed(func(m *api.TermModule) { m.Name = "M" }), changed(func(m *api.TermModule) { m.Funs = nil }), changed(func(m *api.TermModule) { m.Funs = append(m.Funs, m.Funs...) }),
		changed(func(m *api.TermModule) { m.Funs[0].Param = "in" }), changed(func(m *api.TermModule) { m.Funs[1].Name = "A" }), changed(func(m *api.TermModule) { m.Funs[2].Body = api.Term{} }), changed(func(m *api.TermModule) { m.Funs[2].Body = ring }),
		changed(func(m *api.TermModule) { m.Funs[0].From = api.TermType{Sort: api.TypeHole} }), changed(func(m *api.TermModule) { m.Funs[0].To = api.TermType{} }), changed(func(m *api.TermModule) { m.Datas[0].Cons = nil }), changed(func(m *api.TermModule) { m.Datas[0].Cons[0].Name = "nil" }),
		changed(func(m *api.TermModule) { m.Datas = make([]api.TermData, 1000000) }), changed(func(m *api.TermModule) { m.Funs = make([]api.TermFunDef, 1000000) }),
		changed(func(m *api.TermModule) { m.Name, m.Funs[0].Name = "", "start" }), // ErrArg comes before ErrRule
		changed(func(m *api.TermModule) { m.Funs[1].Name, m.Funs[2].Body = "main", api.Term{} }),
	} {
		if p, e := bind.Bind(m); e != api.ErrArg || !noProg(p) {
			t.Error(i, show(p), e)
		}
	}
}
