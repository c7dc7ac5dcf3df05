package term

import (
	"maps"
	"slices"

	"hearth/api"
)

// binder is a name that is bound, and the name that it becomes.
type binder struct {
	name string
	as   string
}

// scope is the names that are bound at a place; the nearest binder of a name counts.
type scope struct {
	*scope // the one around it
	binder
}

// find returns what a name becomes, and whether it is bound.
func (s *scope) find(name string) (string, bool) {
	for ; s != nil; s = s.scope {
		if s.name == name {
			return s.as, true
		}
	}
	return name, false
}

// with returns a scope within this one, where a choice tells what each name becomes.
func (s *scope) with(names []string, choose func(string) string) *scope {
	for _, name := range names {
		s = &scope{s, binder{name, choose(name)}}
	}
	return s
}

func same(name string) string { return name }

// Names returns the names of a pattern, from left to right.
func Names(p api.TermPat) ([]string, api.Errno) {
	if e := CheckPat(p); e != api.OK {
		return nil, e
	}
	return namesOf(p), api.OK
}

func namesOf(p api.TermPat) []string {
	var out []string
	for _, part := range partsOf(p, partsOfPat) {
		if part.Form == api.PatName {
			out = append(out, part.Text)
		}
	}
	return out
}

// boundIn returns the names that a node binds in one of its Kids.
func boundIn(t api.Term, kid int) []string {
	switch {
	case t.Op == api.TermFun, t.Op == api.TermShift, t.Op == api.TermLet && kid == 1:
		return []string{t.Text}
	case t.Op == api.TermMatch && kid > 0:
		return namesOf(t.Pats[kid-1])
	}
	return nil
}

// Free returns the names that are free in a term, sorted.
func Free(t api.Term) ([]string, api.Errno) {
	if e := Check(t); e != api.OK {
		return nil, e
	}
	return freeNames(t), api.OK
}

func freeNames(t api.Term) []string {
	found := map[string]bool{}
	findFree(t, nil, found)
	return slices.Sorted(maps.Keys(found))
}

func findFree(t api.Term, in *scope, found map[string]bool) {
	if t.Op == api.TermName {
		if _, bound := in.find(t.Text); !bound {
			found[t.Text] = true
		}
	}
	for i, kid := range t.Kids {
		findFree(kid, in.with(boundIn(t, i), same), found)
	}
}

// standing returns all names that stand in a term, as TermNames or bound.
func standing(t api.Term) []string {
	var out []string
	for _, part := range partsOf(t, kidsOf) {
		if part.Op == api.TermName {
			out = append(out, part.Text)
		}
		for i := range part.Kids {
			out = append(out, boundIn(part, i)...)
		}
	}
	return out
}

// rebind returns a node without its Kids, with names that are chosen for those that it binds, and the scope of each of the Kids.
// The names are all chosen before a Kid is gone into: that is the order of Canon.
func rebind(t api.Term, in *scope, choose func(string) string) (api.Term, []*scope) {
	out := api.Term{Op: t.Op, N: t.N, Text: t.Text}
	scopes := make([]*scope, len(t.Kids))
	for i := range t.Kids {
		scopes[i] = in.with(boundIn(t, i), choose)
	}
	switch t.Op {
	case api.TermFun, api.TermShift, api.TermLet:
		out.Text = scopes[len(scopes)-1].as
	case api.TermMatch:
		for i, p := range t.Pats {
			out.Pats = append(out.Pats, renamedPat(p, scopes[i+1]))
		}
	}
	return out, scopes
}

func renamedPat(p api.TermPat, in *scope) api.TermPat {
	if p.Form == api.PatName {
		p.Text, _ = in.find(p.Text)
	}
	p.Parts = each(p.Parts, func(part api.TermPat) api.TermPat { return renamedPat(part, in) })
	return p
}

// renamed returns a copy of a term: a name in it becomes what its scope says, and each one that it binds what is chosen.
func renamed(t api.Term, in *scope, choose func(string) string) api.Term {
	out, scopes := rebind(t, in, choose)
	if t.Op == api.TermName {
		out.Text, _ = in.find(t.Text)
	}
	for i, kid := range t.Kids {
		out.Kids = append(out.Kids, renamed(kid, scopes[i], choose))
	}
	return out
}

// exchange puts a term in place of a name.
type exchange struct {
	name string
	by   api.Term
	free []string // in by
}

// Subst returns a term with another one in place of a name.
func Subst(t api.Term, name string, by api.Term) (api.Term, api.Errno) {
	if Check(t) != api.OK || !Name(name) || Check(by) != api.OK {
		return api.Term{}, api.ErrArg
	}
	x := exchange{name, by, freeNames(by)}
	return fitting(x.in(t))
}

// in returns a term with the exchange made in it.
func (x exchange) in(t api.Term) api.Term {
	if !slices.Contains(freeNames(t), x.name) {
		return copyOf(t)
	}
	if t.Op == api.TermName {
		return copyOf(x.by)
	}
	out, scopes := rebind(t, nil, x.chooser(t))
	for i, kid := range t.Kids {
		kid = renamed(kid, scopes[i], same)
		if _, bound := scopes[i].find(x.name); !bound {
			kid = x.in(kid)
		}
		out.Kids = append(out.Kids, kid)
	}
	return out
}

// chooser chooses names for those that a node binds: others for those that would catch a name of the term that is put in.
func (x exchange) chooser(t api.Term) func(string) string {
	names := reserve(x.free, []string{x.name}, standing(t))
	return func(name string) string {
		if slices.Contains(x.free, name) {
			return names.choose()
		}
		return name
	}
}

// Alike returns whether two terms are the same up to bound names.
func Alike(a, b api.Term) (bool, api.Errno) {
	if Check(a) != api.OK || Check(b) != api.OK {
		return false, api.ErrArg
	}
	return equal(canonical(a), canonical(b)), api.OK
}

// Canon returns a term with its bound names chosen anew.
func Canon(t api.Term) (api.Term, api.Errno) {
	if e := Check(t); e != api.OK {
		return api.Term{}, e
	}
	return canonical(t), api.OK
}

func canonical(t api.Term) api.Term {
	names := reserve(freeNames(t))
	return renamed(t, nil, func(string) string { return names.choose() })
}

func equal(a, b api.Term) bool {
	return a.Op == b.Op && a.N == b.N && a.Text == b.Text &&
		slices.EqualFunc(a.Kids, b.Kids, equal) && slices.EqualFunc(a.Pats, b.Pats, equalPat)
}

func equalPat(a, b api.TermPat) bool {
	return a.Form == b.Form && a.N == b.N && a.Text == b.Text && slices.EqualFunc(a.Parts, b.Parts, equalPat)
}
