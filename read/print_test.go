package read_test

import (
	"slices"
	"strings"
	"testing"

	"hearth/api"
	"hearth/read"
	"hearth/term"
)

// P2.2 and P2.3: the source of each kind of term, with brackets where they are asked for; it is read as the term.
func TestPrintTerm(t *testing.T) {
	a, b, c, f, x, y, unit := name("a"), name("b"), name("c"), name("f"), name("x"), name("y"), node(api.TermUnit)
	leaf, id := con("Leaf"), fun("x", name("x"))
	let := func(v, body api.Term) api.Term { return bind(api.TermLet, "x", v, body) }
	choice := node(api.TermIf, a, b, c)
	cases := match(x, row{conPat("Leaf"), num(0)}, row{pat("y"), y})
	for want, u := range map[string]api.Term{
		"0": num(0), "~5": num(-5), "1000000000": num(api.TermMost), "~1000000000": num(-api.TermMost), "true": truth(1), "false": truth(0), "()": unit, "x": x, "chan": node(api.TermChan), "input": node(api.TermIn), "pause": node(api.TermPause),
		"fun x => fun x => a b": fun("x", fun("x", apply(a, b))), "shift x => a < b": bind(api.TermShift, "x", less(a, b)), "let x = fun x => x in if a then b else c": let(id, choice), "if fun x => x then if a then b else c else let x = a in b": node(api.TermIf, id, choice, let(a, b)),
		"a - b - (c - x)": sub(sub(a, b), sub(c, x)), "a - b - c": sub(sub(a, b), c), "a - (b + c)": sub(a, add(b, c)), "a * b * c": mul(mul(a, b), c), "a * (b * c)": mul(a, mul(b, c)), "(a + b) * c": mul(add(a, b), c), "a * (b - c)": mul(a, sub(b, c)), "a * b + c * x": add(mul(a, b), mul(c, x)), "a + (b < c)": add(a, less(b, c)), "(a == b) + c": add(equals(a, b), c), "f a + f b": add(apply(f, a), apply(f, b)), "f a * b c": mul(apply(f, a), apply(b, c)), "f (a * b)": apply(f, mul(a, b)), "~1 - ~2": sub(num(-1), num(-2)),
		"a < b": less(a, b), "(a < b) < c": less(less(a, b), c), "a < (b < c)": less(a, less(b, c)), "(a == b) == (b == c)": equals(equals(a, b), equals(b, c)), "a + b == b - c": equals(add(a, b), sub(b, c)), "(fun x => x) < (let x = a in b)": less(id, let(a, b)), "(if a then b else c) + (if a then b else c)": add(choice, choice), "(if a then b else c) * (shift x => x)": mul(choice, bind(api.TermShift, "x", x)),
		"f a b": apply(apply(f, a), b), "f (a b)": apply(f, apply(a, b)), "f (a b) Node(x, 1)": apply(apply(f, apply(a, b)), con("Node", x, num(1))), "(fun x => x) (fun x => x)": apply(id, id), "f (if a then b else c) x": apply(apply(f, choice), x), "f () (a < b)": apply(apply(f, unit), less(a, b)), "() ()": apply(unit, unit), "f ~5": apply(f, num(-5)), "1 true": apply(num(1), truth(1)),
		"Leaf": leaf, "Leaf(x)": con("Leaf", x), "Leaf(Leaf, ())": con("Leaf", leaf, unit), "Node(fun x => x, a < b, f a)": con("Node", id, less(a, b), apply(f, a)), "Leaf(())": con("Leaf", unit), "Leaf((Leaf) ())": con("Leaf", apply(leaf, unit)),
		"(Leaf) (f x)": apply(leaf, apply(f, x)), "f (Leaf) ()": apply(apply(f, leaf), unit), "(fun x => x) (Leaf) ()": apply(apply(id, leaf), unit), "Leaf x": apply(leaf, x), "Leaf Leaf": apply(leaf, leaf), "Leaf Leaf(x)": apply(leaf, con("Leaf", x)), "Leaf(x) (a b)": apply(con("Leaf", x), apply(a, b)), "(Leaf) (Leaf) ()": apply(apply(leaf, leaf), unit), "(Leaf) (Leaf) (Leaf) (a + b) Leaf": apply(apply(apply(apply(leaf, leaf), leaf), add(a, b)), leaf), "Leaf x (Leaf) ()": apply(apply(apply(leaf, x), leaf), unit), "(Leaf) (Leaf x)": apply(leaf, apply(leaf, x)), "(Leaf) (f Leaf) x": apply(apply(leaf, apply(f, leaf)), x), "(Leaf) (f Leaf) ()": apply(apply(leaf, apply(f, leaf)), unit), "f Leaf + (Leaf) ()": add(apply(f, leaf), apply(leaf, unit)), "Leaf * (a + b)": mul(leaf, add(a, b)), "Leaf + (Leaf < Leaf)": add(leaf, less(leaf, leaf)), "(Leaf) (if a then b else c)": apply(leaf, choice), "(Leaf) (match x { Leaf -> 0 | y -> y } a)": apply(leaf, apply(cases, a)), "Leaf match x { Leaf -> 0 | y -> y }": apply(leaf, cases), "Leaf cell(x)": apply(leaf, node(api.TermCell, x)), "if Leaf then Leaf else Leaf": node(api.TermIf, leaf, leaf, leaf),
		"match x { Leaf -> 0 | y -> y }": cases, "match match x { Leaf -> 0 | y -> y } { a -> fun x => x | b -> (Leaf) () }": match(cases, row{pat("a"), id}, row{pat("b"), apply(leaf, unit)}), "match fun x => x { _ -> 1 }": match(id, row{api.TermPat{Form: api.PatAny}, num(1)}), "match Leaf { ~5 -> a | 0 -> a | true -> a | false -> a | () -> a }": match(leaf, row{api.TermPat{Form: api.PatInt, N: -5}, a}, row{api.TermPat{Form: api.PatInt}, a}, row{api.TermPat{Form: api.PatBool, N: 1}, a}, row{api.TermPat{Form: api.PatBool}, a}, row{api.TermPat{Form: api.PatUnit}, a}), "match x { Node(Leaf, Node((), ~1), _) -> a }": match(x, row{conPat("Node", conPat("Leaf"), conPat("Node", api.TermPat{Form: api.PatUnit}, api.TermPat{Form: api.PatInt, N: -1}), api.TermPat{Form: api.PatAny}), a}), "f match x { Leaf -> 0 | y -> y } ()": apply(apply(f, cases), unit),
		"cell(x)": node(api.TermCell, x), "get(f x)": node(api.TermGet, apply(f, x)), "put(a, fun x => x)": node(api.TermPut, a, id), "spawn(fun x => x)": node(api.TermSpawn, id), "join(())": node(api.TermJoin, unit), "send(Leaf, (Leaf) ())": node(api.TermSend, leaf, apply(leaf, unit)), "take(chan)": node(api.TermTake, node(api.TermChan)), "reset(shift x => a < b)": node(api.TermReset, bind(api.TermShift, "x", less(a, b))), "out(2, ~5)": out(2, num(-5)), "out(0, let x = a in b)": out(0, let(a, b)), "f get(x) out(3, x) chan": apply(apply(apply(f, node(api.TermGet, x)), out(3, x)), node(api.TermChan)), "get(x) (a b)": apply(node(api.TermGet, x), apply(a, b)), "cell(a - (b - c))": node(api.TermCell, sub(a, sub(b, c))),
	} {
		s, e := read.PrintTerm(u)
		if e != api.OK || s != want {
			t.Errorf("%q, not %q: %d", s, want, e)
		}
		if v, e := read.Term(want); e != api.OK || !same(v, u) {
			t.Errorf("%q: %v %d", want, v, e)
		}
	}
	// The match with the most text of all terms, more or less.
	wide := conPat("Abcdefgh", slices.Repeat([]api.TermPat{conPat("Abcdefgh", slices.Repeat([]api.TermPat{{Form: api.PatInt, N: -api.TermMost}}, 3)...)}, 2)...)
	rows := slices.Repeat([]row{{wide, num(-api.TermMost)}}, 5)
	long := num(-api.TermMost)
	for range 9 {
		long = match(long, rows...)
	}
	s, e := read.PrintTerm(long)
	if u, f := read.Term(s); e != api.OK || f != api.OK || !same(u, long) {
		t.Error(len(s), e, f)
	}
}

// gaps returns what a source should be with these tokens: glued tells behind which of them a bracket has no blank before it.
func gaps(tokens []string, glued func(i int) bool) string {
	s := ""
	for i, x := range tokens {
		if i > 0 && tokens[i-1] != "(" && tokens[i-1] != "?" && !among([]string{")", ",", ";"}, x) && !(x == "(" && glued(i-1)) {
			s += " "
		}
		s += x
	}
	return s
}

// withoutPair returns tokens without a bracket and the one that closes it.
func withoutPair(tokens []string, open int) []string {
	depth := 0
	for i, x := range tokens[open:] {
		switch x {
		case "(":
			depth++
		case ")":
			depth--
		}
		if depth == 0 {
			return slices.Concat(tokens[:open], tokens[open+1:open+i], tokens[open+i+1:])
		}
	}
	return nil
}

// P2.2 and P2.3: many terms are read as what they were, with blanks where they should be, and no brackets too many.
func TestPrintOfManyTerms(t *testing.T) {
	d := newDice(5)
	met := map[string]string{}
	brackets := 0
	for range 4000 {
		u := d.formed()
		before := show(u)
		s, e := read.PrintTerm(u)
		if e != api.OK || show(u) != before {
			t.Fatal(before, s, e)
		}
		if other, ok := met[s]; ok && other != before {
			t.Fatal(s, other, before)
		}
		met[s] = before
		if v, e := read.Term(s); e != api.OK || !same(u, v) {
			t.Fatal(s, v, e)
		}
		tokens := texts(t, s)
		if want := gaps(tokens, func(i int) bool {
			return kindOf(tokens[i]) == api.ReadGreat || among(strings.Fields("cell get put spawn join send take out reset"), tokens[i])
		}); s != want {
			t.Fatalf("%q, not %q", s, want)
		}
		for i, x := range tokens {
			if x != "(" {
				continue
			}
			brackets++
			if v, e := read.Term(strings.Join(withoutPair(tokens, i), " ")); e == api.OK && same(u, v) {
				t.Fatalf("%q: the bracket %d", s, i)
			}
		}
	}
	if brackets < 5000 {
		t.Error(brackets)
	}
}

// P2.2: types.
func TestPrintType(t *testing.T) {
	integer, truths, unit := kind(api.TypeInt), kind(api.TypeBool), kind(api.TypeUnit)
	for want, k := range map[string]api.TermType{
		"int": integer, "bool": truths, "unit": unit, "Tree": data("Tree"), "?0": hole(0), "?99": hole(99), "cell int": kind(api.TypeCell, integer), "chan Tree": kind(api.TypeChan, data("Tree")), "task ?5": kind(api.TypeTask, hole(5)), "cell (int -> bool)": kind(api.TypeCell, arrow(integer, truths)), "int -> bool -> unit": arrow(integer, arrow(truths, unit)), "(int -> bool) -> unit": arrow(arrow(integer, truths), unit), "(int -> bool) -> cell task unit": arrow(arrow(integer, truths), kind(api.TypeCell, kind(api.TypeTask, unit))), "cell int -> chan (?1 -> ?2)": arrow(kind(api.TypeCell, integer), kind(api.TypeChan, arrow(hole(1), hole(2)))), "task cell ((int -> int) -> int)": kind(api.TypeTask, kind(api.TypeCell, arrow(arrow(integer, integer), integer))),
	} {
		s, e := read.PrintType(k)
		if e != api.OK || s != want {
			t.Errorf("%q, not %q: %d", s, want, e)
		}
	}
	d := newDice(6)
	for range 2000 {
		k := d.formedType(true)
		before := show(k)
		s, e := read.PrintType(k)
		if e != api.OK || show(k) != before {
			t.Fatal(before, s, e)
		}
		if l, e := read.Type(s); e != api.OK || !same(k, l) {
			t.Fatal(s, l, e)
		}
		tokens := texts(t, s)
		if want := gaps(tokens, func(int) bool { return false }); s != want {
			t.Fatalf("%q, not %q", s, want)
		}
		for i, x := range tokens {
			if x != "(" {
				continue
			}
			if l, e := read.Type(strings.Join(withoutPair(tokens, i), " ")); e == api.OK && same(k, l) {
				t.Fatalf("%q: the bracket %d", s, i)
			}
		}
	}
}

// P2.2: the lines of a module.
func TestPrintModule(t *testing.T) {
	// The example has a pair of brackets too many.
	if s, e := read.PrintModule(exampleModule()); e != api.OK || s != strings.Replace(example, "(get(c)))", "get(c))", 1) {
		t.Errorf("%q %d", s, e)
	}
	function := arrow(kind(api.TypeInt), kind(api.TypeBool))
	m := api.TermModule{Name: "mod",
		Datas: []api.TermData{{Name: "A", Cons: []api.TermConDef{{Name: "B", Args: []api.TermType{function, kind(api.TypeCell, function), data("A")}}}}, {Name: "C", Cons: []api.TermConDef{{Name: "D"}, {Name: "E", Args: []api.TermType{data("C")}}, {Name: "F"}}}},
		Funs:  []api.TermFunDef{{Name: "f", Param: "x", From: function, To: kind(api.TypeTask, function), Body: apply(con("D"), node(api.TermUnit))}, {Name: "g", Param: "y", From: kind(api.TypeUnit), To: function, Body: con("D")}}}
	want := "module mod {\ntype A = B(int -> bool, cell (int -> bool), A);\ntype C = D | E(C) | F;\nfun f(x : int -> bool) : task (int -> bool) = (D) ();\nfun g(y : unit) : int -> bool = D;\n}\n"
	if s, e := read.PrintModule(m); e != api.OK || s != want {
		t.Errorf("%q %d", s, e)
	}
	m.Datas = nil
	if s, e := read.PrintModule(m); e != api.OK || !strings.HasPrefix(s, "module mod {\nfun f(") {
		t.Errorf("%q %d", s, e)
	}
	d := newDice(7)
	count := 0
	for range 500 {
		m := d.module()
		before := show(m)
		s, e := read.PrintModule(m)
		if show(m) != before || e != api.OK && (e != api.ErrLong || s != "") {
			t.Fatal(before, e)
		}
		if e == api.ErrLong {
			continue
		}
		count++
		if n, e := read.Module(s); e != api.OK || !same(m, n) {
			t.Fatalf("%q: %v %d", s, n, e)
		}
		if lines := strings.Split(s, "\n"); len(lines) != 3+len(m.Datas)+len(m.Funs) || strings.TrimSpace(s)+"\n" != s || strings.Contains(s, " \n") || strings.Contains(s, "\n ") {
			t.Fatalf("%q", s)
		}
	}
	if count < 300 {
		t.Error(count)
	}
}

// longModule returns a module with so many large cases, and so many letters in 27 names.
func longModule(cases, letters int) api.TermModule {
	wide := conPat("Abcdefgh", slices.Repeat([]api.TermPat{conPat("Abcdefgh", slices.Repeat([]api.TermPat{{Form: api.PatInt, N: -api.TermMost}}, 3)...)}, 2)...)
	rows := slices.Repeat([]row{{wide, num(1)}}, 5)
	m := api.TermModule{Name: "m"}
	add := func(body api.Term) {
		m.Funs = append(m.Funs, api.TermFunDef{Name: "f", Param: "x", From: kind(api.TypeInt), To: kind(api.TypeInt), Body: body})
	}
	for cases > 0 { // 45 of them in a function
		body := num(1)
		for range 9 {
			body = match(body, rows[:min(cases, 5)]...)
			if cases -= min(cases, 5); cases == 0 {
				break
			}
		}
		add(body)
	}
	var fill func(depth int) api.Term
	fill = func(depth int) api.Term {
		if depth == 0 {
			n := min(8, letters)
			letters -= n
			return name("aaaaaaaa"[:max(1, n)])
		}
		return con("A", fill(depth-1), fill(depth-1), fill(depth-1))
	}
	add(fill(3))
	return m
}

// P2.2: what is not formed, and a source that is too long by one byte.
func TestPrintErrors(t *testing.T) {
	x := name("x")
	endless := api.Term{Op: api.TermGet, Kids: make([]api.Term, 1)}
	endless.Kids[0] = endless
	for i, u := range []api.Term{{}, {Op: 30}, {Op: -1}, num(api.TermMost + 1), name("let"), name("X"), name("a b"), fun("", x), node(api.TermGet), node(api.TermPut, x), con("a"), con("A", x, x, x, x), {Op: api.TermMatch, Kids: []api.Term{x}}, match(x, row{conPat("A", pat("a"), pat("a")), x}), out(4, x), out(-1, x), {Op: api.TermUnit, N: 1}, endless, node(api.TermAdd, x, api.Term{})} {
		if s, e := read.PrintTerm(u); e != api.ErrArg || s != "" {
			t.Error(i, s, e)
		}
	}
	turning := api.TermType{Sort: api.TypeCell, Parts: make([]api.TermType, 1)}
	turning.Parts[0] = turning
	for i, k := range []api.TermType{{}, {Sort: 10}, kind(api.TypeCell), kind(api.TypeFun, kind(api.TypeInt)), data("tree"), hole(100), hole(-1), turning, kind(api.TypeInt, kind(api.TypeInt))} {
		if s, e := read.PrintType(k); e != api.ErrArg || s != "" {
			t.Error(i, s, e)
		}
	}
	for i, change := range []func(m *api.TermModule){func(m *api.TermModule) { *m = api.TermModule{} }, func(m *api.TermModule) { m.Name = "M" }, func(m *api.TermModule) { m.Funs = nil }, func(m *api.TermModule) { m.Funs = slices.Repeat(m.Funs, 3) }, func(m *api.TermModule) { m.Funs[0].Body = api.Term{} }, func(m *api.TermModule) { m.Funs[0].From = hole(0) }, func(m *api.TermModule) { m.Datas[0].Cons = nil }} {
		m := exampleModule()
		change(&m)
		if s, e := read.PrintModule(m); e != api.ErrArg || s != "" {
			t.Error(i, s, e)
		}
	}
}

// P2.2: a source of as many bytes as are allowed, and of one more.
func TestPrintLongModule(t *testing.T) {
	cases := 0
	for ; ; cases++ {
		if s, e := read.PrintModule(longModule(cases, 8*27)); e != api.OK || len(s) >= api.ReadLong {
			break
		}
	}
	longest, refused := 0, 0
	for letters := range 8*27 + 1 {
		m := longModule(cases, letters)
		if e := term.CheckModule(m); e != api.OK {
			t.Fatal(e)
		}
		s, e := read.PrintModule(m)
		if e == api.ErrLong && s == "" {
			refused++
			continue
		}
		if e != api.OK || refused > 0 {
			t.Fatal(letters, len(s), e)
		}
		longest = len(s)
		if n, e := read.Module(s); e != api.OK || !same(m, n) {
			t.Fatal(letters, e)
		}
	}
	if longest != api.ReadLong || refused == 0 {
		t.Error(longest, refused)
	}
}
