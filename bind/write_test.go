package bind_test

import (
	"slices"
	"testing"

	"hearth/api"
	"hearth/bind"
	"hearth/read"
	"hearth/term"
)

// firstNames returns so many names in the order of first names, as the tests have it.
func firstNames(count int) []string {
	var one, out []string
	for c := 'a'; c <= 'z'; c++ {
		one = append(one, string(c))
	}
	for words := one; len(out) < count; {
		var longer []string
		for _, w := range words {
			if !slices.Contains([]string{"if", "in", "fun", "get", "int", "let", "out", "put"}, w) {
				out = append(out, w)
			}
			for _, c := range one {
				longer = append(longer, w+c)
			}
		}
		words = longer
	}
	return out[:count]
}

var someNames = firstNames(1000)

// namer is a second way to write programs with names.
type namer struct {
	api.BindProg
	names []string
}

func newNamer(p api.BindProg) namer { return namer{p, someNames} }

func (w namer) fun(n int) string {
	if n == w.Main {
		return "main"
	}
	return w.names[n]
}

// term returns the term of a node, with the names of the places in its environment.
func (w namer) term(at int, in []string) api.Term {
	n := w.Nodes[at]
	t := api.Term{Op: n.Op, N: n.N}
	next := w.names[len(w.Funs)+len(in)]
	switch n.Op {
	case api.TermName:
		t.N = 0
		if n.N < 0 {
			t.Text = w.fun(-n.N - 1)
		} else {
			t.Text = w.names[len(w.Funs)+n.N]
		}
	case api.TermCon:
		t.Text, t.N = w.Cons[n.N].Name, 0
	case api.TermFun, api.TermShift, api.TermLet:
		t.Text = next
	}
	for i, kid := range n.Kids {
		inner := slices.Clone(in)
		switch {
		case n.Op == api.TermMatch && i > 0:
			t.Pats = append(t.Pats, w.pat(n.Pats[i-1], &inner))
		case n.Op == api.TermFun, n.Op == api.TermShift, n.Op == api.TermLet && i > 0:
			inner = append(inner, next)
		}
		t.Kids = append(t.Kids, w.term(kid, inner))
	}
	return t
}

func (w namer) pat(p api.TermPat, in *[]string) api.TermPat {
	out := api.TermPat{Form: p.Form, N: p.N}
	switch p.Form {
	case api.PatName:
		out.Text = w.names[len(w.Funs)+len(*in)]
		*in = append(*in, out.Text)
	case api.PatCon:
		out.Text, out.N = w.Cons[p.N].Name, 0
	}
	for _, q := range p.Parts {
		out.Parts = append(out.Parts, w.pat(q, in))
	}
	return out
}

func (w namer) body(fun int) api.Term { return w.term(w.Funs[fun], []string{w.names[len(w.Funs)]}) }

func (w namer) module() api.TermModule {
	number := api.TermType{Sort: api.TypeInt}
	m := api.TermModule{Name: "m"}
	for i, c := range w.Cons {
		if i%5 == 0 {
			m.Datas = append(m.Datas, api.TermData{Name: string(rune('A' + i/5))})
		}
		d := &m.Datas[i/5]
		d.Cons = append(d.Cons, api.TermConDef{Name: c.Name, Args: slices.Repeat([]api.TermType{number}, c.Args)})
	}
	for i := range w.Funs {
		m.Funs = append(m.Funs, api.TermFunDef{Name: w.fun(i), Param: w.names[len(w.Funs)], From: number, To: number, Body: w.body(i)})
	}
	return m
}

// printed returns a term as it is written.
func printed(t *testing.T, u api.Term, e api.Errno) string {
	t.Helper()
	s, f := read.PrintTerm(u)
	if e != api.OK || f != api.OK {
		t.Errorf("%s: no term (%d, %d)", show(u), e, f)
	}
	return s
}

// P5.4: the terms of the chapter's example, and its module.
func TestBodyExample(t *testing.T) {
	p := boundOf(t, example)
	for fun, want := range []string{"let e = 1 in b Cons(e, Nil)", "match d { Nil -> 0 | Cons(e, f) -> e + b f }", "fun e => d + e"} {
		u, e := bind.Body(p, fun)
		if s := printed(t, u, e); s != want {
			t.Error(fun, s, "not", want)
		}
	}
	want := moduleOf(t, `module m {
		type A = Nil | Cons(int, int);
		fun main(d : int) : int = let e = 1 in b Cons(e, Nil);
		fun b(d : int) : int = match d { Nil -> 0 | Cons(e, f) -> e + b f };
		fun c(d : int) : int = fun e => d + e;
	}`)
	if m, e := bind.Module(p); e != api.OK || !same(m, want) {
		t.Error(show(m), e)
	}
}

// P5.4: where main stands among the functions, its own name is left out.
func TestNameOfMain(t *testing.T) {
	p := row(node(api.TermFun, 0, 3), named(-1), named(0))
	p.Nodes = append(p.Nodes, node(api.TermApply, 0, 4, 5), named(-2), node(api.TermApply, 0, 6, 7), named(-3), named(1))
	for main, want := range [][]string{{"fun e => b (c e)", "main", "d"}, {"fun e => main (c e)", "a", "d"}, {"fun e => b (main e)", "a", "d"}} {
		p.Main = main
		for fun := range 3 {
			u, e := bind.Body(p, fun)
			if s := printed(t, u, e); s != want[fun] {
				t.Error(main, fun, s, "not", want[fun])
			}
		}
		m, e := bind.Module(p)
		var funs []string
		for _, f := range m.Funs {
			funs = append(funs, f.Name+" "+f.Param)
		}
		if all := [][]string{{"main d", "b d", "c d"}, {"a d", "main d", "c d"}, {"a d", "b d", "main d"}}; e != api.OK || !slices.Equal(funs, all[main]) {
			t.Error(main, funs, e)
		}
	}
}

// P5.4: many functions and places have names that go over keywords.
func TestManyNames(t *testing.T) {
	all := someNames
	if all[25] != "z" || all[26] != "aa" || all[239] != "ig" || slices.Contains(all, "in") || all[700] != "aaa" {
		t.Fatal("the tests' own names are wrong:", all[239], all[700])
	}
	p := row()
	for i := range 299 {
		p.Nodes = append(p.Nodes, named(i-299))
		p.Funs = append(p.Funs, i)
	}
	p.Nodes = append(p.Nodes, named(29))
	p.Funs = append(p.Funs, 299)
	p.Funs[0], p.Main = 0, 7
	p.Nodes[298].N = -300
	for fun := range 299 {
		want := all[298-fun]
		if fun == 291 {
			want = "main"
		}
		if fun == 298 {
			want = all[299]
		}
		if u, e := bind.Body(p, fun); e != api.OK || !same(u, api.Term{Op: api.TermName, Text: want}) {
			t.Error(fun, show(u), e, want)
		}
	}
	if u, e := bind.Body(p, 299); e != api.OK || u.Text != all[329] {
		t.Error(show(u), e)
	}
	if m, e := bind.Module(p); e != api.ErrLong || !same(m, api.TermModule{}) {
		t.Error(show(m), e)
	}
}

// P5.4: the function there must be.
func TestWrongFunction(t *testing.T) {
	for _, p := range []api.BindProg{boundOf(t, example), units(3)} {
		for _, fun := range []int{-1, 3, 4, 1 << 62, -1 << 63} {
			if u, e := bind.Body(p, fun); e != api.ErrArg || !same(u, api.Term{}) {
				t.Error(fun, show(u), e)
			}
		}
	}
	tall := tower(15)
	if u, e := bind.Body(tall, 1); e != api.ErrArg || !same(u, api.Term{}) { // ErrArg comes first
		t.Error(show(u), e)
	}
}

// tower is a program with a body of so much depth.
func tower(depth int) api.BindProg {
	p := oneFun()
	for i := range depth - 1 {
		p.Nodes = append(p.Nodes, node(api.TermGet, 0, i+1))
	}
	p.Nodes = append(p.Nodes, named(0))
	return p
}

// bush is a program with a body of so many nodes, which is not deep.
func bush(nodes int) api.BindProg {
	number := api.TermType{Sort: api.TypeInt}
	body := wide(min(nodes, 55))
	p, e := bind.Bind(api.TermModule{Name: "m", Funs: []api.TermFunDef{{Name: "main", Param: "x", From: number, To: number, Body: body}}})
	if e != api.OK {
		panic("no bush")
	}
	for nodes > len(p.Nodes) { // more at a leaf
		leaf := slices.IndexFunc(p.Nodes, func(n api.BindNode) bool { return n.Op == api.TermName })
		p.Nodes[leaf] = node(api.TermGet, 0, len(p.Nodes))
		p.Nodes = append(p.Nodes, named(0))
	}
	return p
}

// P5.4: terms, and modules, that would not be formed.
func TestLongTerms(t *testing.T) {
	for i, c := range []struct {
		p    api.BindProg
		want api.Errno
	}{
		{tower(14), api.OK}, {tower(15), api.ErrLong}, {tower(16), api.ErrLong}, {tower(60), api.ErrLong}, {tower(300), api.ErrLong}, {bush(60), api.OK}, {bush(61), api.ErrLong}, {bush(62), api.ErrLong}, {bush(120), api.ErrLong},
	} {
		checkAs(t, i, c.p, true)
		u, e := bind.Body(c.p, 0)
		if e != c.want || e != api.OK && !same(u, api.Term{}) || e == api.OK && term.Check(u) != api.OK {
			t.Error(i, show(u), e)
		}
		m, e := bind.Module(c.p)
		if e != c.want || e != api.OK && !same(m, api.TermModule{}) || e == api.OK && term.CheckModule(m) != api.OK {
			t.Error(i, show(m), e)
		}
	}
	p, e := bind.Join(tower(3), tower(15))
	if e != api.OK {
		t.Fatal(e)
	}
	if u, e := bind.Body(p, 0); e != api.OK || printed(t, u, e) != "get(get(c))" {
		t.Error("another function is too long:", show(u), e)
	}
	if u, e := bind.Body(p, 1); e != api.ErrLong || !same(u, api.Term{}) {
		t.Error(show(u), e)
	}
	if m, e := bind.Module(p); e != api.ErrLong || !same(m, api.TermModule{}) {
		t.Error(show(m), e)
	}
}

// P5.4: how many functions and constructors a module has.
func TestLongModules(t *testing.T) {
	for count := 1; count < 8; count++ {
		m, e := bind.Module(units(count))
		if count <= 5 && (e != api.OK || len(m.Funs) != count || len(m.Datas) != 0 || term.CheckModule(m) != api.OK) {
			t.Error(count, show(m), e)
		}
		if count > 5 && (e != api.ErrLong || !same(m, api.TermModule{})) {
			t.Error(count, show(m), e)
		}
	}
	for count := range 21 {
		p := withCons(units(1), letters(count)...)
		m, e := bind.Module(p)
		if e != api.OK || !same(m, newNamer(p).module()) || len(m.Datas) != (count+4)/5 || term.CheckModule(m) != api.OK {
			t.Error(count, show(m), e)
		}
	}
	p := withCons(units(1), con("One", 1), con("Z", 0), con("Three", 3), con("Four", 0), con("Five", 2), con("Six", 3))
	want := moduleOf(t, "module m { type A = One(int) | Z | Three(int, int, int) | Four | Five(int, int); type B = Six(int, int, int); fun main(b : int) : int = (); }")
	if m, e := bind.Module(p); e != api.OK || !same(m, want) {
		t.Error(show(m), e)
	}
}

// P5.4: a program that is not closed has names for its places, too.
func TestBodyThatIsNotClosed(t *testing.T) {
	p := oneFun(node(api.TermLet, 0, 1, 2), named(1), node(api.TermAdd, 0, 3, 4), named(29), named(0))
	u, e := bind.Body(p, 0)
	if s := printed(t, u, e); s != "let c = c in ae + b" {
		t.Error(s)
	}
	m, e := bind.Module(p)
	if e != api.OK || !same(m.Funs[0].Body, u) {
		t.Error(show(m), e)
	}
	if q, e := bind.Bind(m); e != api.ErrRule || !noProg(q) {
		t.Error(show(q), e)
	}
}

// P5.4: names beyond the greatest place, which nothing asks for.
func TestBodyWithManyNames(t *testing.T) {
	p, e := bind.Bind(crowd(13, "vaa"))
	if e != api.OK {
		t.Fatal(e)
	}
	u, e := bind.Body(p, 0)
	if e != api.OK || !same(u, newNamer(p).body(0)) || term.Check(u) != api.OK {
		t.Error(show(u), e)
	}
	m, e := bind.Module(p)
	if q, f := bind.Bind(m); e != api.OK || f != api.OK || !same(p, q) {
		t.Error(show(m), show(q), e, f)
	}
}

// P5.4: many programs against the second way; the module of a closed program has the program.
func TestBodyOfMany(t *testing.T) {
	d := newDice(7)
	kinds := map[string]int{}
	for range 3000 {
		p := d.prog(pick(d, []plan{few(), some(), open(), {funs: 6, depth: 7, closed: true}}))
		w := newNamer(p)
		for fun := range p.Funs {
			want := w.body(fun)
			u, e := bind.Body(p, fun)
			if term.Check(want) != api.OK {
				kinds["long terms"]++
				if e != api.ErrLong || !same(u, api.Term{}) {
					t.Fatal(show(p), fun, show(u), e)
				}
			} else if e != api.OK || !same(u, want) {
				t.Fatal(show(p), fun, show(u), e, show(want))
			}
		}
		want := w.module()
		m, e := bind.Module(p)
		if term.CheckModule(want) != api.OK {
			kinds["long modules"]++
			if e != api.ErrLong || !same(m, api.TermModule{}) {
				t.Fatal(show(p), show(m), e)
			}
			continue
		}
		if e != api.OK || !same(m, want) {
			t.Fatal(show(p), show(m), e, show(want))
		}
		if closedBy(p, depths(p)) {
			kinds["there and back"]++
			thereAndBack(t, p, m)
		}
	}
	if kinds["long terms"] < 10 || kinds["long modules"] < 10 || kinds["there and back"] < 500 {
		t.Error("the programs are all of one kind:", kinds)
	}
}

// thereAndBack binds the module of a closed program.
func thereAndBack(t *testing.T, p api.BindProg, m api.TermModule) {
	t.Helper()
	q, e := bind.Bind(m)
	canon, f := bind.Canon(p)
	if e != api.OK || f != api.OK || !same(q, canon) || text(q) != text(p) {
		t.Fatal(show(p), show(q), e, f)
	}
}
