package read_test

import (
	"strings"
	"testing"

	"hearth/api"
	"hearth/read"
)

// P2.3: what each row of the table reads as.
func TestTerm(t *testing.T) {
	a, b, c, f, x, y, unit := name("a"), name("b"), name("c"), name("f"), name("x"), name("y"), node(api.TermUnit)
	leaf := con("Leaf")
	for source, want := range map[string]api.Term{
		"0": num(0), "~1": num(-1), "1000000000": num(api.TermMost), "~1000000000": num(-api.TermMost), "true": truth(1), "false": truth(0), "()": unit, "( )": unit, "x": x, "(x)": x, "((x))": x, "Leaf": leaf, "(Leaf)": leaf,
		"f a b": apply(apply(f, a), b), "f (a b)": apply(f, apply(a, b)), "f 1 () true": apply(apply(apply(f, num(1)), unit), truth(1)), "f()": apply(f, unit), "f(x)": apply(f, x), "1 2": apply(num(1), num(2)), "f ~1": apply(f, num(-1)), "f -1": sub(f, num(1)),
		"fun x => x + 1 * y": fun("x", add(x, mul(num(1), y))), "fun x => fun y => x": fun("x", fun("y", x)), "(fun x => x) y": apply(fun("x", x), y), "fun x => x y": fun("x", apply(x, y)),
		"shift a => a b": bind(api.TermShift, "a", apply(a, b)),
		"let x = a in x": bind(api.TermLet, "x", a, x), "let x = let y = a in b in fun f => c": bind(api.TermLet, "x", bind(api.TermLet, "y", a, b), fun("f", c)),
		"if a then b else c":                           node(api.TermIf, a, b, c),
		"if a then if b then c else x else y":          node(api.TermIf, a, node(api.TermIf, b, c, x), y),
		"if fun x => x then let x = a in b else a < b": node(api.TermIf, fun("x", x), bind(api.TermLet, "x", a, b), less(a, b)),
		"a < b": less(a, b), "a == b": equals(a, b), "a + b < c - x": less(add(a, b), sub(c, x)), "(a < b) == c": equals(less(a, b), c), "a == (b == c)": equals(a, equals(b, c)),
		"a - b - c": sub(sub(a, b), c), "a - (b - c)": sub(a, sub(b, c)), "a + b - c + x": add(sub(add(a, b), c), x), "a * b * c": mul(mul(a, b), c), "a * (b * c)": mul(a, mul(b, c)), "a + b * c": add(a, mul(b, c)), "a * b + c": add(mul(a, b), c), "(a + b) * c": mul(add(a, b), c), "a * f b": mul(a, apply(f, b)), "a-~1": sub(a, num(-1)),
		"Leaf (x)": con("Leaf", x), "Leaf(x, y)": con("Leaf", x, y), "Node(Leaf, Node(a, b, c), fun x => x)": con("Node", leaf, con("Node", a, b, c), fun("x", x)), "f Leaf (x)": apply(f, con("Leaf", x)), "(Leaf) (x)": apply(leaf, x), "(Leaf) ()": apply(leaf, unit), "f (Leaf) ()": apply(apply(f, leaf), unit), "Leaf x": apply(leaf, x), "Leaf Leaf (x)": apply(leaf, con("Leaf", x)), "Leaf (x) (y)": apply(con("Leaf", x), y), "Leaf((x))": con("Leaf", x), "Leaf(())": con("Leaf", unit), "Leaf 1": apply(leaf, num(1)),
		"match x { y -> y }":                                    match(x, row{pat("y"), y}),
		"match f x { Leaf -> 0 | Node(_, a) -> a }":             match(apply(f, x), row{conPat("Leaf"), num(0)}, row{conPat("Node", api.TermPat{Form: api.PatAny}, pat("a")), a}),
		"match match a { b -> b } { c -> c }":                   match(match(a, row{pat("b"), b}), row{pat("c"), c}),
		"match a { x -> match b { y -> c } | y -> fun x => y }": match(a, row{pat("x"), match(b, row{pat("y"), c})}, row{pat("y"), fun("x", y)}),
		"f match a { b -> c } x":                                apply(apply(f, match(a, row{pat("b"), c})), x),
		"match a{0->b|~7->b|true->b|false->b|()->b}":            match(a, row{api.TermPat{Form: api.PatInt}, b}, row{api.TermPat{Form: api.PatInt, N: -7}, b}, row{api.TermPat{Form: api.PatBool, N: 1}, b}, row{api.TermPat{Form: api.PatBool}, b}, row{api.TermPat{Form: api.PatUnit}, b}),
		"match fun x => x { Node (Leaf, Node(a, ()), _) -> a }": match(fun("x", x), row{conPat("Node", conPat("Leaf"), conPat("Node", pat("a"), api.TermPat{Form: api.PatUnit}), api.TermPat{Form: api.PatAny}), a}),
		"cell(x)": node(api.TermCell, x), "get(x)": node(api.TermGet, x), "spawn(x)": node(api.TermSpawn, x), "join(x)": node(api.TermJoin, x), "take(x)": node(api.TermTake, x), "reset(x)": node(api.TermReset, x), "put(x, y)": node(api.TermPut, x, y), "send(x, y)": node(api.TermSend, x, y),
		"out(0, x)": out(0, x), "out(3, let x = a in b)": out(3, bind(api.TermLet, "x", a, b)), "chan": node(api.TermChan), "input": node(api.TermIn), "pause": node(api.TermPause),
		"cell (fun x => x)": node(api.TermCell, fun("x", x)), "put(a < b, if a then b else c)": node(api.TermPut, less(a, b), node(api.TermIf, a, b, c)), "f cell(x) chan pause input y": apply(apply(apply(apply(apply(f, node(api.TermCell, x)), node(api.TermChan)), node(api.TermPause)), node(api.TermIn)), y), "chan (x)": apply(node(api.TermChan), x), "get(x) (y)": apply(node(api.TermGet, x), y),
	} {
		if u, e := read.Term(source); e != api.OK || !same(u, want) {
			t.Errorf("%q: %v %d", source, u, e)
		}
	}
}

// P2.3: what is no term.
func TestNoTerm(t *testing.T) {
	for _, source := range []string{"", " ", "//x", "%", "x %", "x ~0", "abcdefghi", "a < b < c", "a == b == c", "a < b == c", "f fun x => x", "f let x = a in b", "f if a then b else c", "f shift x => x", "a + fun x => x", "a < fun x => x", "match x { }", "match x { | a -> b }", "match x { a -> b | }", "match x { a -> b", "match x { a => b }", "match x { a }", "match { a -> b }", "match x { (a) -> b }", "match x { ?1 -> b }", "match x { a b -> b }", "match x { Leaf() -> b }", "match x { Leaf(a,) -> b }", "match x { _(a) -> b }", "match x { let -> b }", "match x { - 1 -> b }",
		"(", ")", "(x", "x)", "(x, y)", "Leaf ()", "Leaf()", "Leaf(x,)", "Leaf(,x)", "Leaf(x y", "f Leaf ()", "fun", "fun x", "fun x = x", "fun x =>", "fun X => x", "fun let => x", "fun _ => x", "fun (x) => x", "fun x y => x", "fun x : int => x", "shift x -> x", "shift => x", "let x = a", "let x => a in b", "let X = a in b", "let x = a in", "if a then b", "if a else b", "if a then b else", "a +", "+ a", "a + + b", "- a", "a *", "* a", "a < ", "a <", "< a", "a = b", "a -> b", "a => b", "a | b", "a ; b", "a, b", "_", "?1", "a : int",
		"cell", "cell x", "cell()", "cell(x, y)", "get", "put(x)", "put x y", "put(x, y, a)", "put(x, y,)", "put()", "send(x)", "out(1)", "out(x, 1)", "out(1, x, y)", "out 1 x", "out()", "out(1 x)", "out((1), x)", "input(,)", "chan()x,", "pause x)", "module", "type", "unit", "int", "bool", "task", "else", "in", "then", "module m { fun f(x : int) : int = x; }", "int -> int", "x } ", "x //\n %"} {
		if u, e := read.Term(source); e != api.ErrText || !same(u, api.Term{}) {
			t.Errorf("%q: %v %d", source, u, e)
		}
	}
	// Terms by the table that are not formed.
	for _, source := range []string{"1000000001", "~1000000001", "9999999999", "f 1000000001", "out(4, 1)", "out(~1, x)", "out(9999999999, x)", "Node(a, b, c, d)", "match x { Node(a, a) -> a }", "match x { Node(a, b, c, d) -> a }", "match x { 1000000001 -> a }", "match x { a -> a | b -> b | a -> a | b -> b | a -> a | b -> b }", "match x { Node(Node(a, b, c), Node(a, b, c), Node(a, b, c)) -> a }",
		strings.Repeat("a ", 31), strings.Repeat("get(", 14) + "x" + strings.Repeat(")", 14), strings.Repeat("fun x => ", 14) + "x", strings.Repeat("fun x => ", 800) + "x", strings.Repeat("get(", 1300) + "x" + strings.Repeat(")", 1300), strings.Repeat("f ", 4000), strings.Repeat("match ", 600) + "x" + strings.Repeat("{a->b}", 600)} {
		if u, e := read.Term(source); e != api.ErrArg || !same(u, api.Term{}) {
			t.Errorf("%q: %v %d", source, u, e)
		}
	}
	// At the limits they are formed; brackets are nothing but brackets, however many.
	if u, e := read.Term(strings.Repeat("(", 3999) + "x" + strings.Repeat(")", 3999)); e != api.OK || !same(u, name("x")) {
		t.Error(u, e)
	}
	for _, source := range []string{strings.Repeat("get(", 13) + "x" + strings.Repeat(")", 13), strings.Repeat("fun x => ", 13) + "x", "match x { a -> a | b -> b | a -> a | b -> b | a -> a }", "match x { Node(Node(a, b, c), Node(d, e, f), Node(_, _)) -> a }", "input ()"} {
		if _, e := read.Term(source); e != api.OK {
			t.Errorf("%q: %d", source, e)
		}
	}
	// A text that is none comes first.
	if _, e := read.Term("out(4, 1) )"); e != api.ErrText {
		t.Error(e)
	}
}

// P2.3: types.
func TestType(t *testing.T) {
	integer, truths, unit := kind(api.TypeInt), kind(api.TypeBool), kind(api.TypeUnit)
	for source, want := range map[string]api.TermType{
		"int": integer, "bool": truths, "unit": unit, "Tree": data("Tree"), "(int)": integer, "((Tree))": data("Tree"), "?0": hole(0), "? 99": hole(99), "int->bool": arrow(integer, truths), "int -> bool -> unit": arrow(integer, arrow(truths, unit)), "(int -> bool) -> unit": arrow(arrow(integer, truths), unit), "int -> (bool -> unit)": arrow(integer, arrow(truths, unit)),
		"cell int": kind(api.TypeCell, integer), "chan int": kind(api.TypeChan, integer), "task int": kind(api.TypeTask, integer), "cell chan task ?5": kind(api.TypeCell, kind(api.TypeChan, kind(api.TypeTask, hole(5)))), "cell int -> bool": arrow(kind(api.TypeCell, integer), truths), "cell (int -> bool)": kind(api.TypeCell, arrow(integer, truths)), "cell(int)": kind(api.TypeCell, integer), "task Tree -> Tree": arrow(kind(api.TypeTask, data("Tree")), data("Tree")), "(int -> bool) -> cell task unit": arrow(arrow(integer, truths), kind(api.TypeCell, kind(api.TypeTask, unit))),
	} {
		if k, e := read.Type(source); e != api.OK || !same(k, want) {
			t.Errorf("%q: %v %d", source, k, e)
		}
	}
	for source, want := range map[string]api.Errno{
		"": api.ErrText, "x": api.ErrText, "()": api.ErrText, "int int": api.ErrText, "int ->": api.ErrText, "-> int": api.ErrText, "cell": api.ErrText, "cell -> int": api.ErrText, "?": api.ErrText, "?x": api.ErrText, "?00": api.ErrText, "(int": api.ErrText, "int)": api.ErrText, "Tree(int)": api.ErrText, "Tree (int)": api.ErrText, "Tree int": api.ErrText, "int => int": api.ErrText, "int, int": api.ErrText, "(int, int)": api.ErrText, "fun": api.ErrText, "1": api.ErrText, "int %": api.ErrText, "get int": api.ErrText, "%": api.ErrText,
		"?100": api.ErrArg, "?~1": api.ErrArg, "cell ?100": api.ErrArg, "int -> int -> int -> int -> int -> int -> int": api.ErrArg, strings.Repeat("cell ", 12) + "int": api.ErrArg, strings.Repeat("cell ", 1599) + "int": api.ErrArg, strings.Repeat("int -> ", 1100) + "int": api.ErrArg, "?100 ?": api.ErrText,
		strings.Repeat("cell ", 11) + "int": api.OK, "int -> int -> int -> int -> int -> cell int": api.OK, strings.Repeat("(", 3998) + "int" + strings.Repeat(")", 3998): api.OK,
	} {
		if k, e := read.Type(source); e != want || e != api.OK && !same(k, api.TermType{}) {
			t.Errorf("%q: %v %d", source, k, e)
		}
	}
}

// example is the module of the document.
const example = `module m {
type List = Nil | Cons(int, List);
fun sum(l : List) : int = match l { Nil -> 0 | Cons(x, r) -> x + sum r };
fun main(u : unit) : unit = let c = cell(Cons(2 + 3, Nil)) in let x = put(c, Cons(input, get(c))) in out(1, sum (get(c)));
}
`

func exampleModule() api.TermModule {
	c, x := name("c"), name("x")
	list := data("List")
	sum := match(name("l"), row{conPat("Nil"), num(0)}, row{conPat("Cons", pat("x"), pat("r")), add(x, apply(name("sum"), name("r")))})
	put := node(api.TermPut, c, con("Cons", node(api.TermIn), node(api.TermGet, c)))
	main := bind(api.TermLet, "c", node(api.TermCell, con("Cons", add(num(2), num(3)), con("Nil"))), bind(api.TermLet, "x", put, out(1, apply(name("sum"), node(api.TermGet, c)))))
	return api.TermModule{Name: "m",
		Datas: []api.TermData{{Name: "List", Cons: []api.TermConDef{{Name: "Nil"}, {Name: "Cons", Args: []api.TermType{kind(api.TypeInt), list}}}}},
		Funs:  []api.TermFunDef{{Name: "sum", Param: "l", From: list, To: kind(api.TypeInt), Body: sum}, {Name: "main", Param: "u", From: kind(api.TypeUnit), To: kind(api.TypeUnit), Body: main}}}
}

// P2.3: modules; what their lines are does not matter.
func TestModule(t *testing.T) {
	for _, source := range []string{example, strings.ReplaceAll(example, "\n", " "), strings.ReplaceAll(example, " ", "\t//;\n"), "//\n" + example + "// end"} {
		if m, e := read.Module(source); e != api.OK || !same(m, exampleModule()) {
			t.Errorf("%q: %v %d", source, m, e)
		}
	}
	small := api.TermModule{Name: "a", Funs: []api.TermFunDef{{Name: "f", Param: "x", From: kind(api.TypeInt), To: arrow(kind(api.TypeInt), kind(api.TypeBool)), Body: name("y")}}}
	for _, source := range []string{"module a{fun f(x:int):int->bool=y;}", "module a { fun f ( x : int ) : int -> bool = y ; }"} {
		if m, e := read.Module(source); e != api.OK || !same(m, small) {
			t.Errorf("%q: %v %d", source, m, e)
		}
	}
	f := "fun f(x : int) : int = x; "
	for source, want := range map[string]api.Errno{
		"": api.ErrText, "x": api.ErrText, "module": api.ErrText, "module {": api.ErrText, "module M { " + f + "}": api.ErrText, "module m " + f: api.ErrText, "module m { " + f: api.ErrText, "module m { " + f + "} x": api.ErrText, "module m { " + f + "} }": api.ErrText, "module m { x }": api.ErrText, "module m { fun f(x : int) : int = x }": api.ErrText, "module m { fun f(x) : int = x; }": api.ErrText, "module m { fun f(x : int) = x; }": api.ErrText, "module m { fun f x : int = x; }": api.ErrText, "module m { fun F(x : int) : int = x; }": api.ErrText, "module m { fun f(x : int) : int => x; }": api.ErrText, "module m { fun f(x : int, y : int) : int = x; }": api.ErrText, "module m { fun f() : int = x; }": api.ErrText, "module m { fun f(x : int) : int = ; }": api.ErrText, "module m { fun f(x : x) : int = x; }": api.ErrText,
		"module m { " + f + "type A = B; }": api.ErrText, "module m { type A; " + f + "}": api.ErrText, "module m { type A = ; " + f + "}": api.ErrText, "module m { type A = B | ; " + f + "}": api.ErrText, "module m { type A = B() ; " + f + "}": api.ErrText, "module m { type A = B " + f + "}": api.ErrText, "module m { type a = B; " + f + "}": api.ErrText, "module m { type A = b; " + f + "}": api.ErrText, "module m { type A = B int; " + f + "}": api.ErrText, "module m { type A(int) = B; " + f + "}": api.ErrText, "module m { % }": api.ErrText,
		"module m { }": api.ErrArg, "module m { type A = B; }": api.ErrArg, "module m { " + strings.Repeat(f, 6) + "}": api.ErrArg, "module m { " + strings.Repeat("type A = B; ", 5) + f + "}": api.ErrArg, "module m { type A = B | B | B | B | B | B; " + f + "}": api.ErrArg, "module m { type A = B(int, int, int, int); " + f + "}": api.ErrArg, "module m { type A = B(?1); " + f + "}": api.ErrArg, "module m { fun f(x : ?1) : int = x; }": api.ErrArg, "module m { fun f(x : int) : cell ?1 = x; }": api.ErrArg, "module m { fun f(x : int) : int = out(4, x); }": api.ErrArg, "module m { fun f(x : int) : int = 1000000001; }": api.ErrArg,
		"module m { " + strings.Repeat(f, 5) + "}": api.OK, "module m { " + strings.Repeat("type A = B; ", 4) + f + "}": api.OK, "module m { type A = B | B | B | B | B; " + f + "}": api.OK, "module m { type A = B(int, int -> int, cell A); " + f + "}": api.OK, "module m { type A = B (int) ; fun f(x : A) : task A = Leaf; }": api.OK,
	} {
		if m, e := read.Module(source); e != want || e != api.OK && !same(m, api.TermModule{}) {
			t.Errorf("%q: %v %d", source, m, e)
		}
	}
}

// P2.5: other blanks change the places of tokens alone, and nothing of what is read.
func TestBlanks(t *testing.T) {
	d := newDice(2)
	blanks := []string{" ", "\t", "\n", "  \n\t ", "//\n", "// ~0 % \xff\x00 fun\n", "//a//b\n //\n"}
	for range 400 {
		m := d.module()
		source, e := read.PrintModule(m)
		if e == api.ErrLong {
			continue
		}
		before, _ := read.Tokens(source)
		other := pick(d, []string{"", pick(d, blanks)})
		for i, x := range before {
			space := pick(d, blanks)
			if i == 0 || apart(before[i-1].Text, x.Text) {
				space = pick(d, []string{"", space})
			}
			other += space + x.Text
		}
		other += pick(d, []string{"", "//", "// x", "\n", " "})
		if len(other) > api.ReadLong {
			continue
		}
		after, e := read.Tokens(other)
		if e != api.OK || len(before) != len(after) {
			t.Fatalf("%q: %d", other, e)
		}
		for i, x := range after {
			if !strings.HasPrefix(other[x.At:], x.Text) || x.Text != before[i].Text || x.Kind != before[i].Kind || x.N != before[i].N {
				t.Fatalf("%q: %v %v", other, x, before[i])
			}
		}
		if n, e := read.Module(other); e != api.OK || !same(n, m) {
			t.Fatalf("%q: %v %d", other, n, e)
		}
		if n, e := read.Stops(other); e != api.ErrNone || n != 0 {
			t.Fatalf("%q: %d %d", other, n, e)
		}
	}
}

// apart reports whether two tokens are two without a blank between them.
func apart(a, b string) bool {
	l, at := cut(a + b)
	return at < 0 && len(l) == 2 && l[0].Text == a
}

// P0.12: any source ends with some result, and one that is refused with zero values.
func TestAnySource(t *testing.T) {
	d := newDice(3)
	pieces := strings.Fields("fun shift let if then else in match module type cell get put out chan input true int unit task a f A Leaf 0 1 ~5 1000000001 => == -> = < + - * ( ) { } | , ; : _ ? ( ) ( )")
	sources := []string{strings.Repeat("(", 8000), strings.Repeat("[", 8000), strings.Repeat(")", 8000), strings.Repeat("A(", 4000), strings.Repeat("fun x=>", 1142), strings.Repeat("match ", 1333), strings.Repeat("if ", 2666), strings.Repeat("cell ", 1600), strings.Repeat("get(", 2000), strings.Repeat("1<", 4000), strings.Repeat("1+", 4000), strings.Repeat("\n", 8000), strings.Repeat("?", 8000), strings.Repeat("//", 4000)}
	for range 3000 {
		source := ""
		for range d.Intn(40) {
			source += pick(d, pieces) + " "
		}
		bytes := make([]byte, d.Intn(50))
		d.Read(bytes)
		sources = append(sources, source, string(bytes))
	}
	for _, source := range sources {
		for _, before := range []string{"", "module m { fun f(x : int) : int = ", "module m { fun f(x : ", "module m { fun f(x : int) : int = match x { "} {
			s := before + source
			s = s[:min(len(s), api.ReadLong)]
			if u, e := read.Term(s); e != api.OK && !same(u, api.Term{}) {
				t.Fatalf("%q: %v %d", s, u, e)
			}
			if k, e := read.Type(s); e != api.OK && !same(k, api.TermType{}) {
				t.Fatalf("%q: %v %d", s, k, e)
			}
			m, e := read.Module(s)
			n, f := read.Stops(s)
			if e != api.OK && !same(m, api.TermModule{}) || (e == api.OK || e == api.ErrArg) != (f == api.ErrNone) || f != api.OK && n != 0 {
				t.Fatalf("%q: %v %d %d %d", s, m, e, n, f)
			}
			read.Word(s)
		}
	}
}

// Results share no memory: one that is changed changes no other one.
func TestResultsApart(t *testing.T) {
	first, _ := read.Module(example)
	tokens, _ := read.Tokens(example)
	first.Funs[0].Body.Kids[2].Kids[0].Text = "z"
	first.Funs[0].Body.Pats[1].Parts[0].Text = "z"
	first.Datas[0].Cons[1].Args[0].Sort = api.TypeBool
	tokens[0].Text = "z"
	if m, e := read.Module(example); e != api.OK || !same(m, exampleModule()) {
		t.Error(m, e)
	}
	if l, e := read.Tokens(example); e != api.OK || l[0].Text != "module" {
		t.Error(l, e)
	}
}
