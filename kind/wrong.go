package kind

import (
	"slices"

	"hearth/api"
)

// fault is what can be wrong in a module.
type fault interface {
	isIn(m api.TermModule) bool
}

type (
	dataFault int // the number of the data type that is wrong
	funFault  int // the number of the function
	mainFault struct{}
)

// firstFault returns what is wrong first in a module, or nil.
func firstFault(m api.TermModule) fault {
	for _, f := range faultsOf(m) {
		if f.isIn(m) {
			return f
		}
	}
	return nil
}

// faultsOf returns all that can be wrong in a module, in order.
func faultsOf(m api.TermModule) []fault {
	var out []fault
	for i := range m.Datas {
		out = append(out, dataFault(i))
	}
	for i := range m.Funs {
		out = append(out, funFault(i))
	}
	return append(out, mainFault{})
}

func (at dataFault) isIn(m api.TermModule) bool {
	before, d := m.Datas[:at], m.Datas[at]
	var met []string // constructors
	for _, other := range before {
		if other.Name == d.Name {
			return true
		}
		for _, c := range other.Cons {
			met = append(met, c.Name)
		}
	}
	for _, c := range d.Cons {
		if slices.Contains(met, c.Name) || !namesData(m, c.Args...) {
			return true
		}
		met = append(met, c.Name)
	}
	return false
}

func (at funFault) isIn(m api.TermModule) bool {
	f := m.Funs[at]
	met := slices.ContainsFunc(m.Funs[:at], func(other api.TermFunDef) bool { return other.Name == f.Name })
	return met || !namesData(m, f.From, f.To) || !bodyFits(m, f)
}

func (mainFault) isIn(m api.TermModule) bool {
	return !slices.ContainsFunc(m.Funs, func(f api.TermFunDef) bool { return f.Name == "main" && f.From.Sort == api.TypeUnit })
}

// namesData reports whether each TypeData in some types has the name of a data type of a module.
func namesData(m api.TermModule, types ...api.TermType) bool {
	s := newSolver(m, ownHoles)
	return all(types, func(t api.TermType) bool { return all(slices.Collect(s.parts(t)), s.named) })
}

// named reports whether a type is no TypeData, or has the name of a data type of the module.
func (s *solver) named(t api.TermType) bool {
	return t.Sort != api.TypeData || slices.ContainsFunc(s.Datas, func(d api.TermData) bool { return d.Name == t.Text })
}

// bodyFits reports whether the body of a function has the type To: whether that is an instance of its most general type.
// (It is whole, so it is one just if both can be made equal.)
func bodyFits(m api.TermModule, f api.TermFunDef) bool {
	fits, _ := attempt(func() bool {
		s := newSolver(m, ownHoles)
		body := s.infer(f.Body, []api.KindName{{Name: f.Param, Type: f.From}})
		s.unify(body, f.To)
		return true
	})
	return fits
}
