package bind

import (
	"hearth/api"
	"hearth/term"
)

const mainName = "main"

// unbound is what a binder gives up with.
type unbound struct{}

// local is a name, and the place at which it is bound.
type local struct {
	name  string
	place int
}

// scope is the names that are bound at a node; the last one with a name counts.
type scope struct {
	*scope // the one around it
	local
}

// with returns a scope within this one, in which names are bound at the next places.
func (s *scope) with(names ...string) *scope {
	for _, name := range names {
		place := 0
		if s != nil {
			place = s.place + 1
		}
		s = &scope{s, local{name, place}}
	}
	return s
}

// find returns the place of a name, if it is bound.
func (s *scope) find(name string) (int, bool) {
	for ; s != nil; s = s.scope {
		if s.name == name {
			return s.place, true
		}
	}
	return 0, false
}

// binder puts a program together from the bodies of a module.
type binder struct {
	api.BindProg
	funs map[string]int
	cons map[string]int
	long bool // a place is above those that there are
}

// bound returns the program of a module, or ErrRule if it cannot be bound.
func bound(m api.TermModule) (b *binder, e api.Errno) {
	defer func() {
		if _, gaveUp := recover().(unbound); gaveUp {
			b, e = nil, api.ErrRule
		}
	}()
	b = &binder{funs: map[string]int{}, cons: map[string]int{}}
	b.enterAll(m)
	for _, f := range m.Funs {
		var outside *scope
		body := b.node(f.Body, outside.with(f.Param))
		b.Funs = append(b.Funs, body)
	}
	return b, api.OK
}

// enterAll numbers the functions and the constructors of a module.
func (b *binder) enterAll(m api.TermModule) {
	for _, f := range m.Funs {
		enter(b.funs, f.Name)
	}
	b.Main = number(b.funs, mainName)
	for _, d := range m.Datas {
		for _, c := range d.Cons {
			enter(b.cons, c.Name)
			b.Cons = append(b.Cons, api.BindCon{Name: c.Name, Args: len(c.Args)})
		}
	}
}

// enter gives a name the next number, or gives up if it has one.
func enter(names map[string]int, name string) {
	if _, entered := names[name]; entered {
		panic(unbound{})
	}
	names[name] = len(names)
}

// number returns the number of a name, or gives up if it has none.
func number(names map[string]int, name string) int {
	n, entered := names[name]
	if !entered {
		panic(unbound{})
	}
	return n
}

// node adds the nodes of a term, and returns the number of the first one.
func (b *binder) node(t api.Term, in *scope) int {
	at := len(b.Nodes)
	n := api.BindNode{Op: t.Op, N: t.N}
	switch shapeOf(t.Op).(type) {
	case naming:
		n.N = b.name(t.Text, in)
	case making:
		n.N = b.con(t.Text, len(t.Kids))
	case matching:
		for _, p := range t.Pats {
			n.Pats = append(n.Pats, b.pat(p))
		}
	}
	b.Nodes = append(b.Nodes, n)
	var kids []int
	for i, kid := range t.Kids {
		first := b.node(kid, in.with(boundIn(t, i)...))
		kids = append(kids, first)
	}
	b.Nodes[at].Kids = kids
	return at
}

// boundIn returns the names that a term binds in one of its Kids.
func boundIn(t api.Term, kid int) []string {
	switch shapeOf(t.Op).(type) {
	case binding:
		if kid == len(t.Kids)-1 {
			return []string{t.Text}
		}
	case matching:
		if kid > 0 {
			names, _ := term.Names(t.Pats[kid-1])
			return names
		}
	}
	return nil
}

// name returns what a TermName becomes.
func (b *binder) name(name string, in *scope) int {
	place, has := in.find(name)
	if !has {
		return -1 - number(b.funs, name)
	}
	if place >= api.MeanVals {
		b.long = true
	}
	return place
}

// con returns the number of a constructor that has got so many arguments.
func (b *binder) con(name string, args int) int {
	n := number(b.cons, name)
	if b.Cons[n].Args != args {
		panic(unbound{})
	}
	return n
}

func (b *binder) pat(p api.TermPat) api.TermPat {
	out := api.TermPat{Form: p.Form, N: p.N}
	if p.Form == api.PatCon {
		out.N = b.con(p.Text, len(p.Parts))
	}
	for _, part := range p.Parts {
		inner := b.pat(part)
		out.Parts = append(out.Parts, inner)
	}
	return out
}
