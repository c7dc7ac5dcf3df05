package kind

import (
	"slices"

	"hearth/api"
)

// rule returns the type of a term with names that have types; of a name the last one counts.
type rule func(s *solver, t api.Term, in []api.KindName) api.TermType

// rules returns the rule of each Op.
func rules() [api.TermPause + 1]rule {
	return [...]rule{
		api.TermInt:   (*solver).integer,
		api.TermBool:  (*solver).truth,
		api.TermUnit:  (*solver).unit,
		api.TermName:  (*solver).name,
		api.TermFun:   (*solver).function,
		api.TermApply: (*solver).application,
		api.TermLet:   (*solver).let,
		api.TermIf:    (*solver).choice,
		api.TermAdd:   (*solver).arithmetic,
		api.TermSub:   (*solver).arithmetic,
		api.TermMul:   (*solver).arithmetic,
		api.TermLess:  (*solver).less,
		api.TermSame:  (*solver).same,
		api.TermCon:   (*solver).construction,
		api.TermMatch: (*solver).match,
		api.TermCell:  (*solver).cell,
		api.TermGet:   (*solver).get,
		api.TermPut:   (*solver).put,
		api.TermSpawn: (*solver).spawn,
		api.TermJoin:  (*solver).join,
		api.TermChan:  (*solver).channel,
		api.TermSend:  (*solver).send,
		api.TermTake:  (*solver).take,
		api.TermOut:   (*solver).out,
		api.TermIn:    (*solver).integer,
		api.TermReset: (*solver).reset,
		api.TermShift: (*solver).shift,
		api.TermPause: (*solver).unit,
	}
}

// infer returns the type of a whole term: all that it compares must be known then.
func (s *solver) infer(t api.Term, names []api.KindName) api.TermType {
	found := s.of(t, names)
	if !all(s.sames, s.compared) {
		fail(api.ErrRule)
	}
	return found
}

// compared reports whether values of a type can be compared.
func (s *solver) compared(t api.TermType) bool {
	sort := s.head(t).Sort
	return sort == api.TypeInt || sort == api.TypeBool || sort == api.TypeUnit
}

func (s *solver) of(t api.Term, in []api.KindName) api.TermType { return rules()[t.Op](s, t, in) }

// called returns what a function returns when it has got the Kids of a term.
func (s *solver) called(t api.Term, in []api.KindName, function api.TermType) api.TermType {
	for i := range len(t.Kids) {
		s.unify(s.of(t.Kids[i], in), function.Parts[0])
		function = function.Parts[1]
	}
	return function
}

// with returns names and one more, in memory of its own: those of a caller are not written to.
func with(in []api.KindName, name string, t api.TermType) []api.KindName {
	return append(slices.Clip(in), api.KindName{Name: name, Type: t})
}

func (s *solver) integer(api.Term, []api.KindName) api.TermType { return made(api.TypeInt) }

func (s *solver) truth(api.Term, []api.KindName) api.TermType { return made(api.TypeBool) }

func (s *solver) unit(api.Term, []api.KindName) api.TermType { return made(api.TypeUnit) }

func (s *solver) name(t api.Term, in []api.KindName) api.TermType {
	for i := range len(in) {
		if n := in[len(in)-1-i]; n.Name == t.Text {
			return n.Type
		}
	}
	at := slices.IndexFunc(s.Funs, func(f api.TermFunDef) bool { return f.Name == t.Text })
	if at < 0 {
		fail(api.ErrRule)
	}
	return arrow(s.Funs[at].From, s.Funs[at].To)
}

func (s *solver) function(t api.Term, in []api.KindName) api.TermType {
	x := s.hole()
	return arrow(x, s.of(t.Kids[0], with(in, t.Text, x)))
}

func (s *solver) application(t api.Term, in []api.KindName) api.TermType {
	x, y := s.hole(), s.hole()
	return s.called(t, in, arrow(arrow(x, y), x, y))
}

func (s *solver) let(t api.Term, in []api.KindName) api.TermType {
	value := s.of(t.Kids[0], in)
	return s.of(t.Kids[1], with(in, t.Text, value))
}

func (s *solver) choice(t api.Term, in []api.KindName) api.TermType {
	x := s.hole()
	return s.called(t, in, arrow(made(api.TypeBool), x, x, x))
}

func (s *solver) arithmetic(t api.Term, in []api.KindName) api.TermType {
	x := made(api.TypeInt)
	return s.called(t, in, arrow(x, x, x))
}

func (s *solver) less(t api.Term, in []api.KindName) api.TermType {
	x := made(api.TypeInt)
	return s.called(t, in, arrow(x, x, made(api.TypeBool)))
}

func (s *solver) same(t api.Term, in []api.KindName) api.TermType {
	x := s.hole()
	s.sames = append(s.sames, x)
	return s.called(t, in, arrow(x, x, made(api.TypeBool)))
}

func (s *solver) construction(t api.Term, in []api.KindName) api.TermType {
	return s.called(t, in, s.constructor(t.Text, len(t.Kids)))
}

// constructor returns the type of the first constructor with a name, as a function of so many arguments.
func (s *solver) constructor(name string, count int) api.TermType {
	var types []api.TermType
search:
	for _, d := range s.Datas {
		for _, c := range d.Cons {
			if c.Name == name {
				types = slices.Concat(c.Args, []api.TermType{{Sort: api.TypeData, Text: d.Name}})
				break search
			}
		}
	}
	if len(types) != count+1 {
		fail(api.ErrRule)
	}
	return arrow(types...)
}

func (s *solver) match(t api.Term, in []api.KindName) api.TermType {
	value, body := s.of(t.Kids[0], in), s.hole()
	for i := range len(t.Pats) {
		inner := s.pattern(t.Pats[i], value, in)
		s.unify(s.of(t.Kids[i+1], inner), body)
	}
	return body
}

// pattern returns the names, and behind them those of a pattern that has a type.
func (s *solver) pattern(p api.TermPat, t api.TermType, in []api.KindName) []api.KindName {
	switch p.Form {
	case api.PatName:
		return with(in, p.Text, t)
	case api.PatInt:
		s.unify(made(api.TypeInt), t)
	case api.PatBool:
		s.unify(made(api.TypeBool), t)
	case api.PatUnit:
		s.unify(made(api.TypeUnit), t)
	case api.PatCon:
		con := s.constructor(p.Text, len(p.Parts))
		for i := range len(p.Parts) {
			in = s.pattern(p.Parts[i], con.Parts[0], in)
			con = con.Parts[1]
		}
		s.unify(con, t)
	}
	return in
}

func (s *solver) cell(t api.Term, in []api.KindName) api.TermType {
	x := s.hole()
	return s.called(t, in, arrow(x, made(api.TypeCell, x)))
}

func (s *solver) get(t api.Term, in []api.KindName) api.TermType {
	x := s.hole()
	return s.called(t, in, arrow(made(api.TypeCell, x), x))
}

func (s *solver) put(t api.Term, in []api.KindName) api.TermType {
	x := s.hole()
	return s.called(t, in, arrow(made(api.TypeCell, x), x, made(api.TypeUnit)))
}

func (s *solver) spawn(t api.Term, in []api.KindName) api.TermType {
	x := s.hole()
	return s.called(t, in, arrow(arrow(made(api.TypeUnit), x), made(api.TypeTask, x)))
}

func (s *solver) join(t api.Term, in []api.KindName) api.TermType {
	x := s.hole()
	return s.called(t, in, arrow(made(api.TypeTask, x), x))
}

func (s *solver) channel(api.Term, []api.KindName) api.TermType {
	return made(api.TypeChan, s.hole())
}

func (s *solver) send(t api.Term, in []api.KindName) api.TermType {
	x := s.hole()
	return s.called(t, in, arrow(made(api.TypeChan, x), x, made(api.TypeUnit)))
}

func (s *solver) take(t api.Term, in []api.KindName) api.TermType {
	x := s.hole()
	return s.called(t, in, arrow(made(api.TypeChan, x), x))
}

func (s *solver) out(t api.Term, in []api.KindName) api.TermType {
	return s.called(t, in, arrow(made(api.TypeInt), made(api.TypeUnit)))
}

func (s *solver) reset(t api.Term, in []api.KindName) api.TermType {
	return s.called(t, in, arrow(made(api.TypeInt), made(api.TypeInt)))
}

func (s *solver) shift(t api.Term, in []api.KindName) api.TermType {
	x, n := s.hole(), made(api.TypeInt)
	s.unify(s.of(t.Kids[0], with(in, t.Text, arrow(x, n))), n)
	return x
}
