package kind_test

import (
	"slices"
	"testing"

	"hearth/api"
	"hearth/read"
	"hearth/term"
)

// oracle finds types in another way: all equations of a term are gathered first, and then solved one by one, each in all others.
type oracle struct {
	m         api.TermModule
	next      int // own holes are from 1000 on
	equations [][2]api.TermType
	sames     []api.TermType
	none      bool
}

// signatures are the types of Ops that bind nothing, as functions of their Kids.
var signatures = map[api.TermOp]string{
	api.TermInt: "int", api.TermBool: "bool", api.TermUnit: "unit", api.TermIn: "int", api.TermPause: "unit",
	api.TermApply: "(?0 -> ?1) -> ?0 -> ?1", api.TermIf: "bool -> ?0 -> ?0 -> ?0",
	api.TermAdd: "int -> int -> int", api.TermSub: "int -> int -> int", api.TermMul: "int -> int -> int",
	api.TermLess: "int -> int -> bool", api.TermSame: "?0 -> ?0 -> bool",
	api.TermCell: "?0 -> cell ?0", api.TermGet: "cell ?0 -> ?0", api.TermPut: "cell ?0 -> ?0 -> unit",
	api.TermSpawn: "(unit -> ?0) -> task ?0", api.TermJoin: "task ?0 -> ?0",
	api.TermChan: "chan ?0", api.TermSend: "chan ?0 -> ?0 -> unit", api.TermTake: "chan ?0 -> ?0",
	api.TermOut: "int -> unit", api.TermReset: "int -> int",
}

func (o *oracle) hole() api.TermType {
	o.next++
	return holeOf(999 + o.next)
}

func (o *oracle) equal(a, b api.TermType) { o.equations = append(o.equations, [2]api.TermType{a, b}) }

func (o *oracle) of(t api.Term, in []api.KindName) api.TermType {
	switch t.Op {
	case api.TermName:
		return o.name(t.Text, in)
	case api.TermFun:
		x := o.hole()
		return arrow(x, o.of(t.Kids[0], o.with(in, t.Text, x)))
	case api.TermLet:
		x := o.of(t.Kids[0], in)
		return o.of(t.Kids[1], o.with(in, t.Text, x))
	case api.TermShift:
		x := o.hole()
		o.equal(o.of(t.Kids[0], o.with(in, t.Text, arrow(x, made(api.TypeInt)))), made(api.TypeInt))
		return x
	case api.TermMatch:
		x, y := o.of(t.Kids[0], in), o.hole()
		for i, p := range t.Pats {
			inner := slices.Clone(in)
			o.equal(o.pattern(p, &inner), x)
			o.equal(o.of(t.Kids[i+1], inner), y)
		}
		return y
	case api.TermCon:
		args, k := o.con(t.Text, len(t.Kids))
		for i := range args {
			o.equal(o.of(t.Kids[i], in), args[i])
		}
		return k
	}
	return o.operation(t, in)
}

func (o *oracle) operation(t api.Term, in []api.KindName) api.TermType {
	k, _ := read.Type(signatures[t.Op])
	holes := []api.TermType{o.hole(), o.hole()}
	k = filled(k, func(n int) api.TermType { return holes[n] })
	if t.Op == api.TermSame {
		o.sames = append(o.sames, holes[0])
	}
	for _, kid := range t.Kids {
		o.equal(o.of(kid, in), k.Parts[0])
		k = k.Parts[1]
	}
	return k
}

func (o *oracle) with(in []api.KindName, s string, k api.TermType) []api.KindName {
	return append(slices.Clip(in), api.KindName{Name: s, Type: k})
}

func (o *oracle) name(s string, in []api.KindName) api.TermType {
	for _, n := range slices.Backward(in) {
		if n.Name == s {
			return n.Type
		}
	}
	for _, f := range o.m.Funs {
		if f.Name == s {
			return arrow(f.From, f.To)
		}
	}
	o.none = true
	return o.hole()
}

// con returns the types of the arguments of a constructor, and its own.
func (o *oracle) con(s string, count int) ([]api.TermType, api.TermType) {
	for _, d := range o.m.Datas {
		for _, c := range d.Cons {
			if c.Name == s {
				o.none = o.none || len(c.Args) != count
				return c.Args[:min(count, len(c.Args))], data(d.Name)
			}
		}
	}
	o.none = true
	return nil, o.hole()
}

// pattern returns the type of a pattern, whose names are added to those that are there.
func (o *oracle) pattern(p api.TermPat, in *[]api.KindName) api.TermType {
	switch p.Form {
	case api.PatInt:
		return made(api.TypeInt)
	case api.PatBool:
		return made(api.TypeBool)
	case api.PatUnit:
		return made(api.TypeUnit)
	case api.PatCon:
		args, k := o.con(p.Text, len(p.Parts))
		for i := range args {
			o.equal(o.pattern(p.Parts[i], in), args[i])
		}
		return k
	}
	x := o.hole()
	if p.Form == api.PatName {
		*in = append(*in, api.KindName{Name: p.Text, Type: x})
	}
	return x
}

// solve solves the equations, and returns what becomes of a type; it reports false if there is no solution.
func (o *oracle) solve(k api.TermType) (api.TermType, bool) {
	for len(o.equations) > 0 {
		a, b := o.equations[0][0], o.equations[0][1]
		o.equations = o.equations[1:]
		switch {
		case same(a, b):
		case b.Sort == api.TypeHole && b.N >= 1000 && (a.Sort != api.TypeHole || a.N < 1000):
			o.equal(b, a)
		case a.Sort == api.TypeHole && a.N >= 1000:
			if slices.Contains(holesIn(b), a.N) {
				return k, false
			}
			k = o.replace(a.N, b, k)
		case a.Sort == b.Sort && a.N == b.N && a.Text == b.Text:
			for i := range a.Parts {
				o.equal(a.Parts[i], b.Parts[i])
			}
		default:
			return k, false
		}
	}
	for _, x := range o.sames {
		if x.Sort != api.TypeInt && x.Sort != api.TypeBool && x.Sort != api.TypeUnit {
			return k, false
		}
	}
	return k, !o.none
}

// replace puts a type in place of a hole everywhere, and returns what becomes of one.
func (o *oracle) replace(hole int, by, k api.TermType) api.TermType {
	in := func(t api.TermType) api.TermType {
		return filled(t, func(n int) api.TermType {
			if n == hole {
				return by
			}
			return holeOf(n)
		})
	}
	for i, e := range o.equations {
		o.equations[i] = [2]api.TermType{in(e[0]), in(e[1])}
	}
	for i, x := range o.sames {
		o.sames[i] = in(x)
	}
	return in(k)
}

// foretold returns the type of a term, or the error, as the oracle has it.
func foretold(t *testing.T, m api.TermModule, names []api.KindName, u api.Term) string {
	t.Helper()
	o := &oracle{m: m}
	k, has := o.solve(o.of(u, names))
	if !has {
		return "ErrRule"
	}
	var given []int
	for _, n := range names {
		given = append(given, holesIn(n.Type)...)
	}
	numbers, next := map[int]int{}, 0
	k = filled(k, func(n int) api.TermType {
		if n < 1000 {
			return holeOf(n)
		}
		if _, met := numbers[n]; !met {
			for slices.Contains(given, next) {
				next++
			}
			numbers[n] = next
			next++
		}
		return holeOf(numbers[n])
	})
	if term.CheckType(k) != api.OK {
		return "ErrLong"
	}
	return printed(t, []api.TermType{k}, api.OK)
}
