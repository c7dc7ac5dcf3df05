package read_test

import (
	"fmt"
	"math/rand"
	"regexp"
	"strings"
	"testing"

	"hearth/api"
	"hearth/read"
	"hearth/term"
)

// Short ways to write terms, patterns and types.

func name(s string) api.Term { return api.Term{Op: api.TermName, Text: s} }

func num(n int) api.Term { return api.Term{Op: api.TermInt, N: n} }

func truth(n int) api.Term { return api.Term{Op: api.TermBool, N: n} }

func node(op api.TermOp, kids ...api.Term) api.Term { return api.Term{Op: op, Kids: kids} }

func bind(op api.TermOp, s string, kids ...api.Term) api.Term {
	return api.Term{Op: op, Text: s, Kids: kids}
}

func fun(s string, body api.Term) api.Term { return bind(api.TermFun, s, body) }

func con(s string, kids ...api.Term) api.Term { return bind(api.TermCon, s, kids...) }

func apply(a, b api.Term) api.Term { return node(api.TermApply, a, b) }

func add(a, b api.Term) api.Term { return node(api.TermAdd, a, b) }

func sub(a, b api.Term) api.Term { return node(api.TermSub, a, b) }

func mul(a, b api.Term) api.Term { return node(api.TermMul, a, b) }

func less(a, b api.Term) api.Term { return node(api.TermLess, a, b) }

func equals(a, b api.Term) api.Term { return node(api.TermSame, a, b) }

func out(port int, t api.Term) api.Term {
	return api.Term{Op: api.TermOut, N: port, Kids: []api.Term{t}}
}

func pat(s string) api.TermPat { return api.TermPat{Form: api.PatName, Text: s} }

func conPat(s string, parts ...api.TermPat) api.TermPat {
	return api.TermPat{Form: api.PatCon, Text: s, Parts: parts}
}

// row is a case of a match.
type row struct {
	pat  api.TermPat
	body api.Term
}

func match(t api.Term, rows ...row) api.Term {
	m := node(api.TermMatch, t)
	for _, r := range rows {
		m.Pats = append(m.Pats, r.pat)
		m.Kids = append(m.Kids, r.body)
	}
	return m
}

func kind(s api.TermSort, parts ...api.TermType) api.TermType {
	return api.TermType{Sort: s, Parts: parts}
}

func hole(n int) api.TermType { return api.TermType{Sort: api.TypeHole, N: n} }

func data(s string) api.TermType { return api.TermType{Sort: api.TypeData, Text: s} }

func arrow(a, b api.TermType) api.TermType { return kind(api.TypeFun, a, b) }

// show writes any value, in which nil and empty lists are the same.
func show(x any) string { return fmt.Sprintf("%+v", x) }

func same(a, b any) bool { return show(a) == show(b) }

// The tokens of the chapter, as the tests have them.
var (
	keywords = strings.Fields("bool cell chan else false fun get if in input int join let match module out pause put reset send shift spawn take task then true type unit")
	signs    = strings.Fields("=> == -> = < + - * ( ) { } | , ; : _ ?")
	blank    = regexp.MustCompile(`^([ \t\n]|//[^\n]*)+`)
	piece    = regexp.MustCompile(`^([a-z]+|[A-Z][a-z]*|~?[0-9]+|=>|==|->|[=<+\-*(){}|,;:_?])`)
	small    = regexp.MustCompile(`^[a-z]{1,8}$`)
	great    = regexp.MustCompile(`^[A-Z][a-z]{0,7}$`)
	whole    = regexp.MustCompile(`^(0|~?[1-9][0-9]{0,9})$`)
)

func among(list []string, s string) bool {
	for _, x := range list {
		if x == s {
			return true
		}
	}
	return false
}

// kindOf returns the kind of a token, 0 for what is none.
func kindOf(s string) api.ReadKind {
	switch {
	case among(keywords, s):
		return api.ReadKey
	case small.MatchString(s):
		return api.ReadWord
	case great.MatchString(s):
		return api.ReadGreat
	case whole.MatchString(s):
		return api.ReadInt
	case among(signs, s):
		return api.ReadSign
	}
	return 0
}

// cut returns the tokens of a source, and the place of the first thing that is none, or -1.
func cut(source string) ([]api.ReadToken, int) {
	var tokens []api.ReadToken
	for at := 0; ; {
		at += len(blank.FindString(source[at:]))
		if at == len(source) {
			return tokens, -1
		}
		text := piece.FindString(source[at:])
		if kindOf(text) == 0 {
			return nil, at
		}
		t := api.ReadToken{Kind: kindOf(text), Text: text, At: at}
		if t.Kind == api.ReadInt {
			fmt.Sscan(strings.Replace(text, "~", "-", 1), &t.N)
		}
		tokens = append(tokens, t)
		at += len(text)
	}
}

// texts returns the Texts of the tokens of a source, which has some.
func texts(t *testing.T, source string) []string {
	t.Helper()
	tokens, e := read.Tokens(source)
	if e != api.OK {
		t.Fatalf("%q: %d", source, e)
	}
	var list []string
	for _, x := range tokens {
		list = append(list, x.Text)
	}
	return list
}

// dice throws terms, types and modules; the same ones in each run.
type dice struct{ *rand.Rand }

func newDice(seed int64) dice { return dice{rand.New(rand.NewSource(seed))} }

func pick[T any](d dice, list []T) T { return list[d.Intn(len(list))] }

func (d dice) small() string { return pick(d, []string{"a", "b", "f", "x", "abcdefgh", "inn"}) }

func (d dice) great() string { return pick(d, []string{"A", "Leaf", "Node", "Abcdefgh"}) }

func (d dice) number() int {
	return pick(d, []int{0, 1, -1, 10, -70, api.TermMost, -api.TermMost})
}

func (d dice) pat(depth int, names *[]string) api.TermPat {
	switch d.Intn(6) {
	case 0:
		return api.TermPat{Form: api.PatAny}
	case 1:
		if len(*names) > 0 {
			s := (*names)[0]
			*names = (*names)[1:]
			return pat(s)
		}
	case 2:
		return api.TermPat{Form: api.PatInt, N: d.number()}
	case 3:
		return api.TermPat{Form: api.PatBool, N: d.Intn(2)}
	case 4:
		return api.TermPat{Form: api.PatUnit}
	}
	p := conPat(d.great())
	for range d.Intn(4) * min(depth, 1) {
		p.Parts = append(p.Parts, d.pat(depth-1, names))
	}
	return p
}

// term returns a term of some depth at most, whose parts are often such that brackets matter.
func (d dice) term(depth int) api.Term {
	if depth == 1 {
		return pick(d, []api.Term{name(d.small()), con(d.great()), con(d.great()), num(d.number()), truth(d.Intn(2)), node(api.TermUnit), node(api.TermUnit), node(api.TermChan), node(api.TermIn), node(api.TermPause)})
	}
	kid := func() api.Term { return d.term(1 + d.Intn(depth-1)) }
	switch d.Intn(12) {
	case 0:
		return bind(pick(d, []api.TermOp{api.TermFun, api.TermShift}), d.small(), kid())
	case 1:
		return bind(api.TermLet, d.small(), kid(), kid())
	case 2:
		return node(api.TermIf, kid(), kid(), kid())
	case 3, 4, 5:
		return apply(kid(), kid())
	case 6, 7:
		return node(pick(d, []api.TermOp{api.TermAdd, api.TermSub, api.TermMul, api.TermLess, api.TermSame}), kid(), kid())
	case 8:
		return node(pick(d, []api.TermOp{api.TermPut, api.TermSend}), kid(), kid())
	case 9:
		return node(pick(d, []api.TermOp{api.TermCell, api.TermGet, api.TermSpawn, api.TermJoin, api.TermTake, api.TermReset}), kid())
	case 10:
		c := con(d.great())
		for range d.Intn(4) {
			c.Kids = append(c.Kids, kid())
		}
		return c
	}
	if d.Intn(3) == 0 {
		return out(d.Intn(api.TermPorts), kid())
	}
	m := node(api.TermMatch, kid())
	for range 1 + d.Intn(3) {
		names := []string{"a", "b", "c"}
		m.Pats = append(m.Pats, d.pat(2, &names))
		m.Kids = append(m.Kids, kid())
	}
	return m
}

// formed returns a formed term.
func (d dice) formed() api.Term {
	for {
		if t := d.term(1 + d.Intn(7)); term.Check(t) == api.OK {
			return t
		}
	}
}

func (d dice) kind(depth int, holes bool) api.TermType {
	if depth == 1 {
		if holes && d.Intn(3) == 0 {
			return hole(d.Intn(100))
		}
		return pick(d, []api.TermType{kind(api.TypeInt), kind(api.TypeBool), kind(api.TypeUnit), data(d.great())})
	}
	part := func() api.TermType { return d.kind(1+d.Intn(depth-1), holes) }
	if d.Intn(2) == 0 {
		return arrow(part(), part())
	}
	return kind(pick(d, []api.TermSort{api.TypeCell, api.TypeChan, api.TypeTask}), part())
}

// formedType returns a formed type, which is whole without holes.
func (d dice) formedType(holes bool) api.TermType {
	for {
		if k := d.kind(1+d.Intn(5), holes); term.CheckType(k) == api.OK {
			return k
		}
	}
}

// module returns a formed module, which seldom has types.
func (d dice) module() api.TermModule {
	m := api.TermModule{Name: d.small()}
	for range d.Intn(api.TermDatas + 1) {
		x := api.TermData{Name: d.great()}
		for range 1 + d.Intn(api.TermCons) {
			c := api.TermConDef{Name: d.great()}
			for range d.Intn(api.TermArgs + 1) {
				c.Args = append(c.Args, d.formedType(false))
			}
			x.Cons = append(x.Cons, c)
		}
		m.Datas = append(m.Datas, x)
	}
	for range 1 + d.Intn(api.TermFuns) {
		m.Funs = append(m.Funs, api.TermFunDef{Name: d.small(), Param: d.small(), From: d.formedType(false), To: d.formedType(false), Body: d.formed()})
	}
	return m
}
