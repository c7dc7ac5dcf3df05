package kind_test

import (
	"strings"
	"testing"

	"hearth/api"
	"hearth/kind"
)

// unformedTypes returns types that are not formed.
func unformedTypes() []api.TermType {
	number := made(api.TypeInt)
	long := number
	for range 12 {
		long = made(api.TypeCell, long)
	}
	ring := made(api.TypeFun, number, number)
	ring.Parts[1] = ring
	return []api.TermType{
		{}, {Sort: -1}, {Sort: api.TypeHole + 1}, {Sort: 1 << 62}, {Sort: api.TypeInt, N: 1}, {Sort: api.TypeInt, Text: "A"}, made(api.TypeInt, number), made(api.TypeFun), made(api.TypeFun, number), made(api.TypeFun, number, number, number), made(api.TypeCell), made(api.TypeTask, number, number),
		{Sort: api.TypeData}, data("list"), data("Listoflists"), made(api.TypeData, number), holeOf(-1), holeOf(100), holeOf(1 << 62), made(api.TypeHole, number), arrow(number, holeOf(100)), made(api.TypeChan, api.TermType{}), long, ring,
	}
}

func unformedTerms() []api.Term {
	one := api.Term{Op: api.TermInt, N: 1}
	ring := node(api.TermAdd, one, one)
	ring.Kids[1] = ring
	deep := one
	for range 14 {
		deep = node(api.TermCell, deep)
	}
	return []api.Term{{}, {Op: -1}, {Op: api.TermPause + 1}, {Op: 1 << 62}, bind(api.TermName, "let"), bind(api.TermFun, "x"), node(api.TermIf, one, one), node(api.TermMatch, one), {Op: api.TermMatch, Kids: []api.Term{one, one}, Pats: make([]api.TermPat, 1)}, {Op: api.TermOut, N: 4, Kids: []api.Term{one}}, ring, deep}
}

func unformedModules(t *testing.T) []api.TermModule {
	m := func(change func(*api.TermModule)) api.TermModule {
		m := moduleOf(t, shop)
		change(&m)
		return m
	}
	return []api.TermModule{
		{},
		m(func(m *api.TermModule) { m.Name = "" }),
		m(func(m *api.TermModule) { m.Funs = nil }),
		m(func(m *api.TermModule) { m.Funs[0].Param = "in" }),
		m(func(m *api.TermModule) { m.Funs[0].From = holeOf(0) }),
		m(func(m *api.TermModule) { m.Funs[2].Body = api.Term{} }),
		m(func(m *api.TermModule) { m.Datas[1].Cons = nil }),
		m(func(m *api.TermModule) { m.Datas[0].Cons[1].Args[0] = api.TermType{} }),
		m(func(m *api.TermModule) { m.Funs = append(m.Funs, m.Funs...) }),
		m(func(m *api.TermModule) { m.Datas = make([]api.TermData, 1000000) }),
	}
}

// P3.1, P0.12: types that are not formed.
func TestUnformedTypes(t *testing.T) {
	for i, k := range unformedTypes() {
		for _, pair := range [][2]api.TermType{{k, made(api.TypeInt)}, {holeOf(0), k}, {k, k}} {
			if l, e := kind.Unify(pair[0], pair[1]); e != api.ErrArg || len(l) > 0 {
				t.Error(i, l, e)
			}
			if is, e := kind.Instance(pair[0], pair[1]); e != api.ErrArg || is {
				t.Error(i, is, e)
			}
		}
	}
}

// P3.2, P0.12: what Infer refuses, whether there were a type or not.
func TestInferErrors(t *testing.T) {
	m, u, none := moduleOf(t, shop), termOf(t, "1"), termOf(t, "1 + true")
	refused := func(what string, m api.TermModule, names []api.KindName, u api.Term) {
		t.Helper()
		if got := inferred(t, m, names, u); got != "ErrArg" {
			t.Error(what, got)
		}
	}
	for _, bad := range unformedModules(t) {
		refused("a module:", bad, nil, u)
		refused("a module, and there is no type:", bad, nil, none)
	}
	for _, bad := range unformedTerms() {
		refused("a term:", m, nil, bad)
	}
	for _, bad := range unformedTypes() {
		refused("a type:", m, []api.KindName{{Name: "a", Type: made(api.TypeInt)}, {Name: "b", Type: bad}}, u)
	}
	for _, bad := range []string{"", "let", "A", "abcdefghi", "a b", "a1", strings.Repeat("a", 100000)} {
		refused("a name:", m, []api.KindName{{Name: bad, Type: made(api.TypeInt)}}, u)
		refused("a name, and there is no type:", m, []api.KindName{{Name: bad, Type: made(api.TypeInt)}}, none)
	}
	var names []api.KindName
	for range 20 {
		names = append(names, api.KindName{Name: "a", Type: made(api.TypeInt)})
	}
	if got := inferred(t, m, names, u); got != "int" {
		t.Error("20 names:", got)
	}
	refused("21 names:", m, append(names, names[0]), u)
	refused("many names:", m, make([]api.KindName, 1000000), u)
}

// P3.3, P0.12: modules that are not formed.
func TestUnformedModules(t *testing.T) {
	for i, m := range unformedModules(t) {
		if e := kind.Module(m); e != api.ErrArg {
			t.Error(i, e)
		}
		if p, n, e := kind.Wrong(m); p != 0 || n != 0 || e != api.ErrArg {
			t.Error(i, p, n, e)
		}
		if l, e := kind.Effects(m, 0); e != api.ErrArg || len(l) > 0 {
			t.Error(i, l, e)
		}
	}
}

// scribble changes all memory of a type.
func scribble(k *api.TermType) {
	for i := range k.Parts {
		scribble(&k.Parts[i])
	}
	if cap(k.Parts) > len(k.Parts) {
		k.Parts = append(k.Parts, api.TermType{Sort: -1})
	}
	*k = api.TermType{Sort: -1}
}

// R4: results share no memory with arguments, or with each other.
func TestUnifyMemory(t *testing.T) {
	d := newDice(9)
	for range 2000 {
		a, b := d.formedKind(4, 4), d.formedKind(4, 4)
		before := show(a) + show(b)
		l, e := kind.Unify(a, b)
		again, f := kind.Unify(a, b)
		if !same(l, again) || e != f {
			t.Fatal(show(l), show(again))
		}
		for i := range l {
			scribble(&l[i])
			if !same(l[i+1:], again[i+1:]) {
				t.Fatal(show(a), show(b), "types of one result share memory")
			}
		}
		if show(a)+show(b) != before {
			t.Fatal(before, "a result shares memory with an argument")
		}
	}
}

func TestInferMemory(t *testing.T) {
	m, d := moduleOf(t, shop), newDice(10)
	for range 2000 {
		names := make([]api.KindName, 0, 8)
		names = append(names, api.KindName{Name: "a", Type: d.formedKind(3, 3)}, api.KindName{Name: "b", Type: d.formedKind(2, 0)})
		u := d.formed(names, d.formedKind(3, 0), 1+d.Intn(5))
		if d.Intn(2) == 0 {
			u = bind(api.TermName, pick(d, []string{"a", "b", "sum", "open"}))
		}
		before := show(m) + show(names[:8]) + show(u)
		k, e := kind.Infer(m, names, u)
		again, f := kind.Infer(m, names, u)
		if !same(k, again) || e != f {
			t.Fatal(show(k), show(again))
		}
		for i := range k.Parts {
			scribble(&k.Parts[i])
			if !same(k.Parts[i+1:], again.Parts[i+1:]) {
				t.Fatal(show(u), "parts of the result share memory")
			}
		}
		if show(m)+show(names[:8])+show(u) != before {
			t.Fatal(before, "an argument was changed, or is shared")
		}
	}
}
