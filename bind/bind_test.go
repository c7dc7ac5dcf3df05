package bind_test

import (
	"fmt"
	"slices"
	"strings"
	"testing"

	"hearth/api"
	"hearth/bind"
	"hearth/term"
)

// P5.2: the program of the chapter's example, node by node.
func TestBindExample(t *testing.T) {
	cons, name, apply := api.TermCon, api.TermName, api.TermApply
	pattern := pats(pat(api.PatCon, 0), pat(api.PatCon, 1, pat(api.PatName, 0), pat(api.PatName, 0)))
	want := api.BindProg{
		Nodes: []api.BindNode{
			node(api.TermLet, 0, 1, 2), node(api.TermInt, 1), node(apply, 0, 3, 4), node(name, -2), node(cons, 1, 5, 6), node(name, 1), node(cons, 0),
			matching(pattern, 8, 9, 10), node(name, 0), node(api.TermInt, 0), node(api.TermAdd, 0, 11, 12), node(name, 1), node(apply, 0, 13, 14), node(name, -2), node(name, 2),
			node(api.TermFun, 0, 16), node(api.TermAdd, 0, 17, 18), node(name, 0), node(name, 1),
		},
		Funs: []int{0, 7, 15}, Main: 0, Cons: []api.BindCon{con("Nil", 0), con("Cons", 2)},
	}
	if p := boundOf(t, example); !same(p, want) {
		t.Error(show(p), "not", show(want))
	}
	if p := boundOf(t, strings.NewReplacer("u : unit", "y : unit", "(h, t)", "(one, two)", "h + sum t", "one + sum two").Replace(example)); !same(p, want) {
		t.Error(show(p), "not the same program")
	}
}

// bodyText writes the node of a body of main: the functions are f, g and main, in this order.
func bodyText(t *testing.T, body string) string {
	t.Helper()
	p := boundOf(t, mainWith(" type D = Zero | One(int) | Two(int, D); fun f(x : int) : int = x; fun g(f : int) : int = f;", body))
	if p.Main != 2 || nodeText(p, p.Funs[0]) != "(4 0)" || nodeText(p, p.Funs[1]) != "(4 0)" {
		t.Error(show(p), "f, or g, is wrong")
	}
	return nodeText(p, p.Funs[2])
}

// P5.2: each way to bind a name, and what is not bound by it.
func TestPlaces(t *testing.T) {
	place := func(n int) string { return fmt.Sprintf("(%d %d)", api.TermName, n) }
	op := func(o api.TermOp, kids ...string) string {
		return fmt.Sprintf("(%d 0 %s)", o, strings.Join(kids, " "))
	}
	u, one, f, g, main := place(0), place(1), place(-1), place(-2), place(-3)
	for body, want := range map[string]string{
		"u": u, "f": f, "g": g, "main": main,
		"f u":                                 op(api.TermApply, f, u),
		"fun x => x":                          op(api.TermFun, one),
		"fun x => u":                          op(api.TermFun, u),
		"fun u => u":                          op(api.TermFun, one),
		"fun f => f":                          op(api.TermFun, one),
		"fun main => f":                       op(api.TermFun, f),
		"(fun f => f) f":                      op(api.TermApply, op(api.TermFun, one), f),
		"fun x => fun x => x":                 op(api.TermFun, op(api.TermFun, place(2))),
		"fun x => fun y => x":                 op(api.TermFun, op(api.TermFun, one)),
		"fun x => (fun y => y) + x":           op(api.TermFun, op(api.TermAdd, op(api.TermFun, place(2)), one)),
		"shift k => k":                        op(api.TermShift, one),
		"shift u => fun k => u":               op(api.TermShift, op(api.TermFun, one)),
		"let x = u in x":                      op(api.TermLet, u, one),
		"let u = u in u":                      op(api.TermLet, u, one),
		"let f = f in f":                      op(api.TermLet, f, one),
		"let u = u in let u = u in u":         op(api.TermLet, u, op(api.TermLet, one, place(2))),
		"let x = (let y = u in y) in x":       op(api.TermLet, op(api.TermLet, u, one), one),
		"(let x = u in x) + (let y = u in y)": op(api.TermAdd, op(api.TermLet, u, one), op(api.TermLet, u, one)),
		"if u then f else g":                  op(api.TermIf, u, f, g),
	} {
		if got := bodyText(t, body); got != want {
			t.Errorf("%s: %s, not %s", body, got, want)
		}
	}
}

// P5.2: the names of a pattern are bound from left to right, in the Kid that belongs to it alone.
func TestPlacesOfPatterns(t *testing.T) {
	for body, want := range map[string][]int{ // the Ns of the TermNames, in order
		"match u { Two(a, b) -> a + b | x -> x + u | _ -> f }":                       {0, 1, 2, 1, 0, -1},
		"match u { Two(b, a) -> a + b }":                                             {0, 2, 1},
		"match u { Two(_, Two(a, Two(b, c))) -> c + b + a + u }":                     {0, 3, 2, 1, 0},
		"match u { Two(a, Zero) -> match a { b -> a + b } | One(b) -> b }":           {0, 1, 1, 2, 1},
		"match (match u { a -> a }) { a -> a }":                                      {0, 1, 1},
		"match u { f -> f | g -> f }":                                                {0, 1, -1},
		"match u { Two(u, f) -> u + f }":                                             {0, 1, 2},
		"match u { Two(a, b) -> fun c => let d = c in a + b + c + d | 7 -> u }":      {0, 3, 1, 2, 3, 4, 0},
		"fun x => match x { Two(x, y) -> shift x => x + y | 0 -> x | true -> main }": {1, 4, 3, 1, -3},
	} {
		p := boundOf(t, mainWith(" type D = Zero | One(int) | Two(int, D); fun f(x : int) : int = 0; fun g(x : int) : int = 0;", body))
		var got []int
		for _, n := range p.Nodes {
			if n.Op == api.TermName {
				got = append(got, n.N)
			}
		}
		if !slices.Equal(got, want) {
			t.Errorf("%s: %v, not %v", body, got, want)
		}
	}
}

// P5.2: what stays as it is, and numbers of constructors over all data types.
func TestNumbersThatStay(t *testing.T) {
	body := "match Two(true, out(3, ~7)) { One(_) -> ~1000000000 | Two(false, 12) -> 0 | () -> Zero | One(One(x)) -> chan | x -> () }"
	p := boundOf(t, mainWith(" type A = Zero | One(int); type B = Two(int, A);", body))
	any, x := pat(api.PatAny, 0), pat(api.PatName, 0)
	want := []api.BindNode{
		matching(pats(pat(api.PatCon, 1, any), pat(api.PatCon, 2, pat(api.PatBool, 0), pat(api.PatInt, 12)), pat(api.PatUnit, 0), pat(api.PatCon, 1, pat(api.PatCon, 1, x)), x), 1, 5, 6, 7, 8, 9),
		node(api.TermCon, 2, 2, 3), node(api.TermBool, 1), node(api.TermOut, 3, 4), node(api.TermInt, -7), node(api.TermInt, -1000000000), node(api.TermInt, 0), node(api.TermCon, 0), node(api.TermChan, 0), node(api.TermUnit, 0),
	}
	if !same(p.Nodes, want) || !same(p.Cons, []api.BindCon{con("Zero", 0), con("One", 1), con("Two", 2)}) || !same(p.Funs, []int{0}) || p.Main != 0 {
		t.Error(show(p), "not", show(want))
	}
}

// P5.2: modules that cannot be bound, and some that can.
func TestCannotBeBound(t *testing.T) {
	datas := " type A = Zero | One(int); type B = Two(int, A);"
	for source, want := range map[string]api.Errno{
		mainWith(datas, "u"):                                                  api.OK,
		mainWith(datas, "x"):                                                  api.ErrRule,
		mainWith(datas, "a"):                                                  api.ErrRule, // also as an argument of a call
		mainWith(datas, "f"):                                                  api.ErrRule,
		mainWith("", "One 1"):                                                 api.ErrRule,
		mainWith(datas, "(let x = 1 in x) + x"):                               api.ErrRule,
		mainWith(datas, "(fun x => x) x"):                                     api.ErrRule,
		mainWith(datas, "let x = x in x"):                                     api.ErrRule,
		mainWith(datas, "match u { x -> x | y -> x }"):                        api.ErrRule,
		mainWith(datas, "match x { x -> x }"):                                 api.ErrRule,
		mainWith(datas, "shift k => x"):                                       api.ErrRule,
		mainWith(datas, "One"):                                                api.ErrRule,
		mainWith(datas, "One(1, 2)"):                                          api.ErrRule,
		mainWith(datas, "Zero(1)"):                                            api.ErrRule,
		mainWith(datas, "Two(1)"):                                             api.ErrRule,
		mainWith(datas, "Two(1, Three)"):                                      api.ErrRule,
		mainWith(datas, "Two(Two(1, 2), One(Zero))"):                          api.OK, // types are not asked about
		mainWith(datas, "match u { One -> 1 }"):                               api.ErrRule,
		mainWith(datas, "match u { One(1, _) -> 1 }"):                         api.ErrRule,
		mainWith(datas, "match u { Zero(_) -> 1 }"):                           api.ErrRule,
		mainWith(datas, "match u { Two(_, Three) -> 1 }"):                     api.ErrRule,
		mainWith(datas, "match u { Two(_, One) -> 1 }"):                       api.ErrRule,
		mainWith(datas, "match u { Two(Two(a, b), One(Zero)) -> a + b }"):     api.OK,
		mainWith(" fun f(x : int) : int = u;", "0"):                           api.ErrRule, // another function's parameter
		mainWith(" fun f(x : int) : int = 0;", "x"):                           api.ErrRule,
		mainWith(" fun f(x : int) : int = main;", "f"):                        api.OK,
		mainWith(" fun f(f : int) : int = f;", "f"):                           api.OK,
		mainWith(" fun main(x : int) : int = 0;", "0"):                        api.ErrRule,
		mainWith(" fun f(x : int) : int = 0; fun f(x : int) : int = 0;", "0"): api.ErrRule,
		mainWith(" type A = Zero; type B = Zero;", "0"):                       api.ErrRule,
		mainWith(" type A = Zero | One | Zero;", "0"):                         api.ErrRule,
		mainWith(" type A = Zero; type B = One | Two | Zero(int);", "0"):      api.ErrRule,
		mainWith(" type A = Zero; type A = One(None);", "Zero"):               api.OK, // names of types are not asked about
		"module m { fun f(x : int) : int = 0; }":                              api.ErrRule,
		"module main { fun f(main : int) : int = main; }":                     api.ErrRule,
		"module m { fun main(main : int) : int = main; }":                     api.OK,
	} {
		p, e := bind.Bind(moduleOf(t, source))
		if e != want || e != api.OK && !noProg(p) {
			t.Error(source, show(p), e)
		}
	}
}

// eight is a pattern with 8 names, which have some letters within.
func eight(letters string) api.TermPat {
	x := func(n int) api.TermPat {
		return api.TermPat{Form: api.PatName, Text: "v" + letters + string(rune('a'+n))}
	}
	three := func(l ...api.TermPat) api.TermPat {
		return api.TermPat{Form: api.PatCon, Text: "Three", Parts: l}
	}
	return three(three(x(0), x(1), x(2)), three(x(3), x(4), x(5)), api.TermPat{Form: api.PatCon, Text: "Two", Parts: []api.TermPat{x(6), x(7)}})
}

// crowd is a module whose main has so many matches with 8 names each, within each other, and then a name.
func crowd(matches int, name string) api.TermModule {
	number := api.TermType{Sort: api.TypeInt}
	three := api.TermConDef{Name: "Three", Args: []api.TermType{number, number, number}}
	two := api.TermConDef{Name: "Two", Args: []api.TermType{number, number}}
	body := api.Term{Op: api.TermName, Text: name}
	for i := range matches {
		letters := string(rune('a' + matches - 1 - i))
		body = api.Term{Op: api.TermMatch, Kids: []api.Term{{Op: api.TermUnit}, body}, Pats: []api.TermPat{eight(letters)}}
	}
	return api.TermModule{Name: "m", Datas: []api.TermData{{Name: "D", Cons: []api.TermConDef{three, two}}}, Funs: []api.TermFunDef{{Name: "main", Param: "u", From: number, To: number, Body: body}}}
}

// P5.2: the greatest place; names beyond it that nothing asks for; ErrRule comes first.
func TestGreatestPlace(t *testing.T) {
	for i, c := range []struct {
		matches int
		name    string
		place   int
		want    api.Errno
	}{
		{4, "vde", 29, api.OK}, {4, "vdf", 0, api.ErrLong}, {4, "vdh", 0, api.ErrLong}, {4, "vaa", 1, api.OK}, {13, "vaa", 1, api.OK}, {13, "vde", 29, api.OK}, {13, "vdf", 0, api.ErrLong}, {13, "vmh", 0, api.ErrLong}, {13, "u", 0, api.OK}, {13, "main", -1, api.OK}, {13, "zz", 0, api.ErrRule},
	} {
		p, e := bind.Bind(crowd(c.matches, c.name))
		if e != c.want || e != api.OK && !noProg(p) || e == api.OK && p.Nodes[len(p.Nodes)-1].N != c.place {
			t.Error(i, show(p), e)
		}
		if e == api.OK {
			checkAs(t, i, p, true)
		}
	}
	long := crowd(4, "vdf")
	second := api.TermFunDef{Name: "f", Param: "u", From: long.Funs[0].From, To: long.Funs[0].To, Body: api.Term{Op: api.TermName, Text: "x"}}
	long.Funs = append(long.Funs, second)
	if p, e := bind.Bind(long); e != api.ErrRule || !noProg(p) {
		t.Error(show(p), e)
	}
	long.Funs[1].Body.Text = "u"
	if p, e := bind.Bind(long); e != api.ErrLong || !noProg(p) {
		t.Error(show(p), e)
	}
	long.Funs[0].Name, long.Funs[1].Name = "f", "g"
	if p, e := bind.Bind(long); e != api.ErrRule || !noProg(p) {
		t.Error(show(p), e)
	}
}

// P5.2: a module with as much as there can be of everything.
func TestGreatestModule(t *testing.T) {
	number := api.TermType{Sort: api.TypeInt}
	m := api.TermModule{Name: "m"}
	for i := range 4 {
		d := api.TermData{Name: "D"}
		for j := range 5 {
			d.Cons = append(d.Cons, api.TermConDef{Name: string(rune('A' + 5*i + j)), Args: slices.Repeat([]api.TermType{number}, (5*i+j)%4)})
		}
		m.Datas = append(m.Datas, d)
	}
	for i := range 5 {
		body := wide(60)
		m.Funs = append(m.Funs, api.TermFunDef{Name: pick(newDice(int64(i)), []string{"a", "b"}) + string(rune('a'+i)), Param: "x", From: number, To: number, Body: body})
	}
	m.Funs[3].Name = "main"
	p, e := bind.Bind(m)
	if e != api.OK || len(p.Nodes) != 300 || len(p.Cons) != 20 || p.Main != 3 || !same(p.Funs, []int{0, 60, 120, 180, 240}) || p.Cons[19] != con("T", 3) {
		t.Error(show(p), e)
	}
	checkAs(t, "the greatest one", p, true)
	if q, e := bind.Module(p); e != api.OK || len(q.Datas) != 4 || len(q.Funs) != 5 || term.CheckModule(q) != api.OK {
		t.Error(show(q), e)
	}
}

// wide returns a term of so many nodes that is not deep.
func wide(nodes int) api.Term {
	x := api.Term{Op: api.TermName, Text: "x"}
	switch nodes {
	case 1:
		return x
	case 2:
		return api.Term{Op: api.TermGet, Kids: []api.Term{x}}
	}
	return api.Term{Op: api.TermAdd, Kids: []api.Term{wide((nodes - 1) / 2), wide(nodes - 1 - (nodes-1)/2)}}
}

// module returns a module that is formed, with names that often meet; it can be bound or not.
func (d dice) module() api.TermModule {
	number := api.TermType{Sort: api.TypeInt}
	m := api.TermModule{Name: "m"}
	var cons []api.TermConDef
	for _, c := range d.cons() {
		cons = append(cons, api.TermConDef{Name: c.Name, Args: slices.Repeat([]api.TermType{number}, c.Args)})
	}
	for len(cons) > 0 {
		n := 1 + d.Intn(min(3, len(cons)))
		m.Datas = append(m.Datas, api.TermData{Name: "D", Cons: slices.Clone(cons[:n])})
		cons = cons[n:]
	}
	m.Datas = m.Datas[:min(len(m.Datas), 4)]
	funs := []string{"main", "a", "f", "main"}[:1+d.Intn(3)+d.Intn(20)/19]
	d.Shuffle(len(funs), func(i, j int) { funs[i], funs[j] = funs[j], funs[i] })
	for _, f := range funs {
		param := pick(d, []string{"x", "a", "f", "main"})
		m.Funs = append(m.Funs, api.TermFunDef{Name: f, Param: param, From: number, To: number})
	}
	for i := range m.Funs {
		for term.Check(m.Funs[i].Body) != api.OK {
			m.Funs[i].Body = d.term(m, []string{m.Funs[i].Param}, 1+d.Intn(7))
		}
	}
	return m
}

func (d dice) term(m api.TermModule, in []string, depth int) api.Term {
	word := pick(d, []string{"x", "y", "a", "f", "main"})
	if depth == 1 || d.Intn(8) == 0 {
		if d.Intn(60) > 0 {
			word = pick(d, append(slices.Clone(in), m.Funs[0].Name, m.Funs[len(m.Funs)-1].Name))
		}
		return pick(d, []api.Term{{Op: api.TermName, Text: word}, {Op: api.TermName, Text: word}, {Op: api.TermName, Text: word}, {Op: api.TermInt, N: d.Intn(3)}})
	}
	some := func(more ...string) api.Term { return d.term(m, slices.Concat(in, more), depth-1) }
	switch d.Intn(6) {
	case 0:
		return api.Term{Op: pick(d, []api.TermOp{api.TermFun, api.TermShift}), Text: word, Kids: []api.Term{some(word)}}
	case 1, 2:
		return api.Term{Op: api.TermLet, Text: word, Kids: []api.Term{some(), some(word)}}
	case 3:
		return api.Term{Op: api.TermOut, N: d.Intn(4), Kids: []api.Term{some()}}
	case 4:
		if len(m.Datas) > 0 {
			c := pick(d, pick(d, m.Datas).Cons)
			t := api.Term{Op: api.TermCon, Text: c.Name}
			for range c.Args {
				t.Kids = append(t.Kids, some())
			}
			return d.spoiltTerm(t)
		}
	case 5:
		t := api.Term{Op: api.TermMatch, Kids: []api.Term{some()}}
		for range 1 + d.Intn(2) {
			p := d.namedPat(m, 3)
			l, e := term.Names(p)
			if e != api.OK {
				p = api.TermPat{Form: api.PatAny}
			}
			t.Pats = append(t.Pats, p)
			t.Kids = append(t.Kids, some(l...))
		}
		return t
	}
	return api.Term{Op: api.TermAdd, Kids: []api.Term{some(), some()}}
}

// spoiltTerm makes a construction wrong now and then.
func (d dice) spoiltTerm(t api.Term) api.Term {
	switch d.Intn(80) {
	case 0:
		t.Text = "None"
	case 1:
		t.Kids = append(t.Kids, api.Term{Op: api.TermUnit})
	}
	return t
}

func (d dice) namedPat(m api.TermModule, depth int) api.TermPat {
	if depth == 1 || d.Intn(3) == 0 || len(m.Datas) == 0 {
		return pick(d, []api.TermPat{{Form: api.PatAny}, {Form: api.PatInt, N: 3}, {Form: api.PatName, Text: pick(d, []string{"x", "y", "a", "f", "p", "q", "r"})}, {Form: api.PatName, Text: pick(d, []string{"s", "t", "main"})}})
	}
	c := pick(d, pick(d, m.Datas).Cons)
	p := api.TermPat{Form: api.PatCon, Text: c.Name}
	for range c.Args {
		p.Parts = append(p.Parts, d.namedPat(m, depth-1))
	}
	if d.Intn(80) == 0 {
		p.Text = "None"
	}
	if d.Intn(80) == 0 {
		p.Parts = p.Parts[:len(p.Parts)/2]
	}
	return p
}

// resolver is a second way to bind: it writes the text that the program of a module has.
type resolver struct {
	funs []string
	cons []api.BindCon
	rule bool
	long bool
}

func resolve(m api.TermModule) (string, api.Errno) {
	r := &resolver{}
	for _, f := range m.Funs {
		r.rule = r.rule || slices.Contains(r.funs, f.Name)
		r.funs = append(r.funs, f.Name)
	}
	for _, d := range m.Datas {
		for _, c := range d.Cons {
			r.rule = r.rule || slices.ContainsFunc(r.cons, func(b api.BindCon) bool { return b.Name == c.Name })
			r.cons = append(r.cons, con(c.Name, len(c.Args)))
		}
	}
	main := slices.Index(r.funs, "main")
	out := []string{show(main), show(r.cons)}
	for _, f := range m.Funs {
		out = append(out, r.term(f.Body, []string{f.Param}))
	}
	switch {
	case r.rule || main < 0:
		return "", api.ErrRule
	case r.long:
		return "", api.ErrLong
	}
	return strings.Join(out, "\n"), api.OK
}

func (r *resolver) con(name string, args int) int {
	i := slices.Index(r.cons, con(name, args))
	r.rule = r.rule || i < 0
	return i
}

func (r *resolver) term(t api.Term, in []string) string {
	n := t.N
	if t.Op == api.TermName {
		n = len(in) - 1
		for n >= 0 && in[n] != t.Text {
			n--
		}
		r.long = r.long || n > 29
		if n < 0 {
			i := slices.Index(r.funs, t.Text)
			r.rule = r.rule || i < 0
			n = -1 - i
		}
	}
	if t.Op == api.TermCon {
		n = r.con(t.Text, len(t.Kids))
	}
	out := fmt.Sprint("(", int(t.Op), " ", n)
	for _, p := range t.Pats {
		out += " " + show(r.pat(p))
	}
	for i, kid := range t.Kids {
		inner := slices.Clone(in)
		switch {
		case t.Op == api.TermMatch && i > 0:
			inner = patNames(t.Pats[i-1], inner)
		case t.Op == api.TermFun, t.Op == api.TermShift, t.Op == api.TermLet && i > 0:
			inner = append(inner, t.Text)
		}
		out += " " + r.term(kid, inner)
	}
	return out + ")"
}

func (r *resolver) pat(p api.TermPat) api.TermPat {
	out := pat(p.Form, p.N)
	if p.Form == api.PatCon {
		out.N = r.con(p.Text, len(p.Parts))
	}
	for _, q := range p.Parts {
		out.Parts = append(out.Parts, r.pat(q))
	}
	return out
}

// patNames adds the names of a pattern to some others.
func patNames(p api.TermPat, to []string) []string {
	if p.Form == api.PatName {
		to = append(to, p.Text)
	}
	for _, q := range p.Parts {
		to = patNames(q, to)
	}
	return to
}

// P5.2: many modules against the second way; what is returned is formed, closed, and in order.
func TestBindOfMany(t *testing.T) {
	d := newDice(4)
	kinds := map[api.Errno]int{}
	for range 6000 {
		m := d.module()
		want, f := resolve(m)
		p, e := bind.Bind(m)
		kinds[e]++
		if e != f || e != api.OK && !noProg(p) {
			t.Fatal(show(m), e, f)
		}
		if e != api.OK {
			continue
		}
		if text(p) != want || !inOrder(p) || bind.Check(p) != api.OK {
			t.Fatal(show(m), show(p), want)
		}
		if is, e := bind.Closed(p); !is || e != api.OK {
			t.Fatal(show(p), "is not closed", e)
		}
	}
	if kinds[api.OK] < 2000 || kinds[api.ErrRule] < 500 {
		t.Error("the modules are all of one kind:", kinds)
	}
}

// anew returns a module with other bound names, each one of which stands nowhere else.
func anew(m api.TermModule) api.TermModule {
	next := 0
	fresh := func() string {
		next++
		return "z" + string(rune('a'+next/676)) + string(rune('a'+next/26%26)) + string(rune('a'+next%26))
	}
	m = copyOfModule(m)
	for i, f := range m.Funs {
		m.Funs[i].Param = fresh()
		m.Funs[i].Body = renamed(f.Body, map[string]string{f.Param: m.Funs[i].Param}, fresh)
	}
	return m
}

func renamed(t api.Term, as map[string]string, fresh func() string) api.Term {
	out := api.Term{Op: t.Op, N: t.N, Text: t.Text}
	if s, bound := as[t.Text]; t.Op == api.TermName && bound {
		out.Text = s
	}
	if t.Op == api.TermFun || t.Op == api.TermShift || t.Op == api.TermLet {
		out.Text = fresh()
	}
	for i, kid := range t.Kids {
		inner := map[string]string{}
		for from, to := range as {
			inner[from] = to
		}
		switch {
		case t.Op == api.TermMatch && i > 0:
			for _, s := range patNames(t.Pats[i-1], nil) {
				inner[s] = fresh()
			}
			out.Pats = append(out.Pats, renamedPat(t.Pats[i-1], inner))
		case t.Op == api.TermFun, t.Op == api.TermShift, t.Op == api.TermLet && i > 0:
			inner[t.Text] = out.Text
		}
		out.Kids = append(out.Kids, renamed(kid, inner, fresh))
	}
	return out
}

func renamedPat(p api.TermPat, as map[string]string) api.TermPat {
	if p.Form == api.PatName {
		p.Text = as[p.Text]
	}
	p.Parts = roomy(p.Parts, func(q api.TermPat) api.TermPat { return renamedPat(q, as) })
	return p
}

// P5.2: modules that differ only in bound names have the same program.
func TestBoundNames(t *testing.T) {
	d := newDice(5)
	for range 2000 {
		m := d.module()
		n := anew(m)
		canon := copyOfModule(m)
		for i, f := range m.Funs {
			canon.Funs[i].Body, _ = term.Canon(f.Body)
		}
		p, e := bind.Bind(m)
		q, f := bind.Bind(n)
		r, g := bind.Bind(canon)
		if e != f || e != g || !same(p, q) || !same(p, r) {
			t.Fatal(show(m), show(n), e, f, g)
		}
	}
}
