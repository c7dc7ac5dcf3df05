package kind_test

import (
	"slices"
	"strings"
	"testing"

	"hearth/api"
	"hearth/kind"
	"hearth/term"
)

// A typing is a term, names with types, and the type or the error.
type typing struct{ names, source, want string }

func checkTypings(t *testing.T, m api.TermModule, list []typing) {
	t.Helper()
	for _, c := range list {
		names, u := namesOf(t, c.names), termOf(t, c.source)
		got := inferred(t, m, names, u)
		if got != c.want {
			t.Errorf("Infer(%s) with %q: %s, not %s", c.source, c.names, got, c.want)
		}
		if told := foretold(t, m, names, u); told != c.want {
			t.Errorf("the oracle, of %s with %q: %s, not %s", c.source, c.names, told, c.want)
		}
	}
}

// P3.2: the examples of the chapter.
func TestInferExamples(t *testing.T) {
	checkTypings(t, example(t, "int"), []typing{
		{"", "fun x => fun y => x", "?0 -> ?1 -> ?0"}, {"", "fun f => f 1", "(int -> ?0) -> ?0"}, {"", "fun x => x x", "ErrRule"},
		{"", "sum", "List -> int"}, {"sum : bool", "sum", "bool"},
		{"", "Cons(1, Nil)", "List"}, {"", "Cons(Nil)", "ErrRule"}, {"", "shift k => k 1 + k 2", "int"},
		{"", "fun x => x == x", "ErrRule"}, {"", "fun x => x == 1", "int -> bool"},
		{"c : ?0", "chan", "chan ?1"}, {"c : ?3 -> int", "c", "?3 -> int"},
	})
}

// P3.2: the rules of Ops, one by one: each Kid has its type, and no other one.
func TestInferOps(t *testing.T) {
	checkTypings(t, moduleOf(t, shop), []typing{
		{"", "5", "int"}, {"", "true", "bool"}, {"", "false", "bool"}, {"", "()", "unit"}, {"", "input", "int"}, {"", "pause", "unit"}, {"", "chan", "chan ?0"},
		{"", "none", "ErrRule"}, {"", "fun x => y", "ErrRule"}, {"", "let x = x in 1", "ErrRule"},
		{"", "fun x => x", "?0 -> ?0"}, {"", "fun x => 1", "?0 -> int"}, {"", "fun x => fun x => x", "?0 -> ?1 -> ?1"}, {"", "fun f => fun g => fun x => g (f x)", "(?0 -> ?1) -> (?1 -> ?2) -> ?0 -> ?2"},
		{"", "(fun x => x) 1", "int"}, {"", "1 2", "ErrRule"}, {"", "sum 1", "ErrRule"}, {"", "sum Nil", "int"}, {"", "sum sum", "ErrRule"}, {"", "fun f => fun x => f (f x)", "(?0 -> ?0) -> ?0 -> ?0"}, {"", "(fun f => f 1) (fun x => x < x)", "bool"},
		{"", "let x = 1 in x < x", "bool"}, {"", "let x = fun y => y in x", "?0 -> ?0"}, {"", "let i = fun y => y in let x = i 1 in i true", "ErrRule"}, {"", "let i = fun y => y in i i", "ErrRule"}, {"", "let x = true in let x = 1 in x + x", "int"}, {"x : bool", "let x = if x then 1 else 2 in x", "int"},
		{"", "if true then 1 else 2", "int"}, {"", "if 1 then 1 else 2", "ErrRule"}, {"", "if true then 1 else false", "ErrRule"}, {"", "fun b => fun x => if b then x else x", "bool -> ?0 -> ?0"}, {"", "fun x => fun y => if x then y else x", "bool -> bool -> bool"},
		{"", "1 + 2", "int"}, {"", "1 - 2", "int"}, {"", "1 * 2", "int"}, {"", "1 < 2", "bool"}, {"", "1 + true", "ErrRule"}, {"", "() - 1", "ErrRule"}, {"", "1 * Nil", "ErrRule"}, {"", "true * 1", "ErrRule"}, {"", "true < false", "ErrRule"}, {"", "1 < true", "ErrRule"}, {"", "fun x => fun y => x + y", "int -> int -> int"}, {"", "fun x => fun y => x - y", "int -> int -> int"}, {"", "fun x => fun y => x * y", "int -> int -> int"}, {"", "fun x => fun y => x < y", "int -> int -> bool"},
		{"", "cell(1)", "cell int"}, {"", "cell(cell(()))", "cell cell unit"}, {"", "fun x => cell(x)", "?0 -> cell ?0"},
		{"", "get(cell(true))", "bool"}, {"", "get(1)", "ErrRule"}, {"", "get(chan)", "ErrRule"}, {"", "fun c => get(c)", "cell ?0 -> ?0"},
		{"", "put(cell(1), 2)", "unit"}, {"", "put(cell(1), true)", "ErrRule"}, {"", "put(1, 1)", "ErrRule"}, {"", "put(chan, 1)", "ErrRule"}, {"", "fun c => fun x => put(c, x)", "cell ?0 -> ?0 -> unit"}, {"", "fun c => put(c, c)", "ErrRule"},
		{"", "spawn(fun u => 1)", "task int"}, {"", "spawn(1)", "ErrRule"}, {"", "spawn(fun n => n + 1)", "ErrRule"}, {"", "spawn(main)", "task unit"}, {"", "fun f => spawn(f)", "(unit -> ?0) -> task ?0"},
		{"", "join(spawn(main))", "unit"}, {"", "join(cell(1))", "ErrRule"}, {"", "fun x => join(x)", "task ?0 -> ?0"},
		{"", "send(chan, 1)", "unit"}, {"", "send(cell(1), 1)", "ErrRule"}, {"", "fun c => fun x => send(c, x)", "chan ?0 -> ?0 -> unit"}, {"", "let c = chan in let x = send(c, 1) in send(c, true)", "ErrRule"},
		{"", "take(chan)", "?0"}, {"", "take(cell(1))", "ErrRule"}, {"", "fun c => take(c) + 1", "chan int -> int"}, {"", "let c = chan in let x = send(c, 1) in c", "chan int"},
		{"", "out(0, 1)", "unit"}, {"", "out(3, true)", "ErrRule"}, {"", "fun x => out(1, x)", "int -> unit"},
		{"", "reset(1)", "int"}, {"", "reset(true)", "ErrRule"}, {"", "fun x => reset(x)", "int -> int"}, {"", "reset(1 + (shift k => k (k 2)))", "int"},
		{"", "shift k => 1", "?0"}, {"", "shift k => true", "ErrRule"}, {"", "shift k => k", "ErrRule"}, {"", "shift k => k true", "bool"}, {"", "if (shift k => k true) then 1 else 2", "int"}, {"", "1 + (shift k => k true)", "ErrRule"}, {"", "fun x => shift k => k x", "?0 -> ?0"}, {"", "shift k => k ()", "unit"},
	})
}

// P3.2: what is compared is integers, truths or units, and the term says which of them.
func TestInferSame(t *testing.T) {
	checkTypings(t, moduleOf(t, shop), []typing{
		{"", "1 == 2", "bool"}, {"", "true == false", "bool"}, {"", "() == pause", "bool"}, {"", "1 == true", "ErrRule"}, {"", "() == 1", "ErrRule"}, {"", "Nil == Nil", "ErrRule"}, {"", "main == main", "ErrRule"}, {"", "cell(1) == cell(1)", "ErrRule"}, {"", "chan == chan", "ErrRule"}, {"", "spawn(main) == spawn(main)", "ErrRule"},
		{"", "fun x => x == true", "bool -> bool"}, {"", "fun x => () == x", "unit -> bool"}, {"", "fun x => fun y => x == y", "ErrRule"}, {"", "fun x => fun y => let z = x == y in x + 1", "int -> int -> int"}, {"", "(fun x => x == x) 1", "bool"}, {"", "(fun x => x == x) Nil", "ErrRule"},
		{"", "let f = fun x => x == x in 1", "ErrRule"}, {"", "let f = fun x => x == x in f true", "bool"}, {"", "let f = fun x => x == x in f main", "ErrRule"}, {"", "(shift k => 1) == (shift k => 2)", "ErrRule"}, {"", "take(chan) == take(chan)", "ErrRule"},
		{"c : int", "c == c", "bool"}, {"c : ?0", "c == c", "ErrRule"}, {"c : ?0", "fun x => x == c", "ErrRule"}, {"c : List", "c == c", "ErrRule"}, {"c : ?0", "fun x => x == 1", "int -> bool"},
		{"", "(1 == 2) == (() == ())", "bool"}, {"", "fun x => fun y => if x == y then fun z => z == x else fun z => y == ()", "unit -> unit -> unit -> bool"},
	})
}

// P3.2: constructors and patterns.
func TestInferData(t *testing.T) {
	checkTypings(t, moduleOf(t, shop), []typing{
		{"", "Nil", "List"}, {"", "Nil(1)", "ErrRule"}, {"", "Cons", "ErrRule"}, {"", "Cons(1)", "ErrRule"}, {"", "Cons(1, Nil, 2)", "ErrRule"}, {"", "Cons(Nil, Nil)", "ErrRule"}, {"", "Cons(1, 2)", "ErrRule"}, {"", "None", "ErrRule"}, {"", "List", "ErrRule"},
		{"", "fun x => fun y => Cons(x, y)", "int -> List -> List"}, {"", "Box(fun x => x < 1, cell(1))", "Box"}, {"", "Box(open(Empty), cell(1))", "Box"}, {"", "Box(1, cell(1))", "ErrRule"}, {"", "Box(fun x => x, cell(1))", "ErrRule"}, {"", "fun f => fun c => Box(f, c)", "(int -> bool) -> cell int -> Box"}, {"", "(Nil) 1", "ErrRule"},
		{"", "match 1 { 1 -> true | _ -> false }", "bool"}, {"", "match 1 { true -> 1 }", "ErrRule"}, {"", "match true { true -> 1 | false -> 2 }", "int"}, {"", "match () { () -> 1 }", "int"}, {"", "match 1 { () -> 1 }", "ErrRule"}, {"", "match () { 1 -> 1 }", "ErrRule"}, {"", "match 1 { x -> x + 1 }", "int"}, {"", "match 1 { x -> if x then 1 else 2 }", "ErrRule"},
		{"", "match 1 { 1 -> true | 2 -> 3 }", "ErrRule"}, {"", "match 1 { 1 -> 1 | true -> 1 }", "ErrRule"}, {"", "match none { _ -> 1 }", "ErrRule"}, {"", "match 1 { x -> y | y -> 1 }", "ErrRule"}, {"", "match x { x -> 1 }", "ErrRule"},
		{"", "fun x => match x { _ -> 1 }", "?0 -> int"}, {"", "fun x => match x { y -> y }", "?0 -> ?0"}, {"", "fun x => match x { 3 -> true | y -> y < x }", "int -> bool"}, {"", "fun x => match x { true -> x | y -> y }", "bool -> bool"}, {"", "fun x => match x { () -> x }", "unit -> unit"},
		{"", "fun x => match x { Nil -> 0 | Cons(y, z) -> y }", "List -> int"}, {"", "fun x => match x { Nil -> x | Cons(y, z) -> z }", "List -> List"}, {"", "match Nil { Cons(x, y) -> x y | _ -> 1 }", "ErrRule"}, {"", "match Nil { Cons(y) -> 1 }", "ErrRule"}, {"", "match Nil { Cons -> 1 }", "ErrRule"}, {"", "match Nil { Nil(x) -> 1 }", "ErrRule"}, {"", "match Nil { Empty -> 1 }", "ErrRule"}, {"", "match Nil { Nil -> 1 | Empty -> 1 }", "ErrRule"}, {"", "match Nil { Cons(Nil, _) -> 1 }", "ErrRule"}, {"", "match Nil { None -> 1 }", "ErrRule"},
		{"", "match Nil { Cons(1, Cons(x, Cons(_, y))) -> Cons(x, y) | Cons(_, Nil) -> Nil | z -> z }", "List"}, {"", "fun b => match b { Box(f, c) -> f (get(c)) | Empty -> false }", "Box -> bool"}, {"", "fun b => match b { Box(f, c) -> f c }", "ErrRule"}, {"", "match Empty { Box(1, c) -> 1 }", "ErrRule"},
		{"x : bool", "match 1 { x -> x + 1 | y -> if x then y else 0 }", "int"}, {"", "fun f => match f { g -> g 1 | h -> h 2 + 1 }", "(int -> int) -> int"},
		{"c : ?0", "match c { x -> x }", "?0"}, {"c : ?0", "match c { 1 -> 2 }", "ErrRule"}, {"", "fun x => match take(chan) { Cons(y, _) -> x + y }", "int -> int"},
	})
}

// P3.2: types of names, of which the last one counts, and functions that they hide; their holes stay as they are.
func TestInferNames(t *testing.T) {
	checkTypings(t, moduleOf(t, shop), []typing{
		{"c : int", "c", "int"}, {"c : int, c : bool", "c", "bool"}, {"c : bool, d : unit, c : int", "c + 1", "int"}, {"c : int, c : bool", "c + 1", "ErrRule"}, {"c : int", "fun c => c", "?0 -> ?0"}, {"c : int", "d", "ErrRule"}, {"c : int -> bool", "c 1", "bool"},
		{"", "open", "Box -> int -> bool"}, {"", "main ()", "unit"}, {"sum : ?2", "sum", "?2"}, {"", "fun sum => sum + 1", "int -> int"}, {"", "let sum = 1 in sum + sum", "int"}, {"", "match 1 { sum -> sum + 1 }", "int"}, {"", "shift sum => sum 1", "int"}, {"sum : int -> int", "sum Nil", "ErrRule"}, {"sum : int, sum : List -> unit", "sum Nil", "unit"},
		{"c : Tree", "c", "Tree"}, {"c : Tree, d : Tree", "if true then c else d", "Tree"}, {"c : Tree, d : List", "if true then c else d", "ErrRule"}, {"c : Tree -> int", "c Nil", "ErrRule"},
		// Holes that are given are types as others are.
		{"c : ?0", "c", "?0"}, {"c : ?0", "c + 1", "ErrRule"}, {"c : ?0", "if c then 1 else 2", "ErrRule"}, {"c : ?0", "c 1", "ErrRule"}, {"c : ?0", "get(c)", "ErrRule"}, {"c : ?0, d : ?1", "if true then c else d", "ErrRule"}, {"c : ?0, d : ?0", "if true then c else d", "?0"}, {"c : ?0 -> ?1, d : ?0", "c d", "?1"}, {"c : ?0 -> ?1", "c 1", "ErrRule"}, {"c : ?0", "cell(c)", "cell ?0"}, {"c : ?0", "put(cell(1), c)", "ErrRule"}, {"c : ?7", "fun x => if true then x else c", "?7 -> ?7"}, {"c : ?7", "(fun x => x) c", "?7"}, {"c : ?0 -> ?0", "c c", "ErrRule"}, {"c : ?0", "fun f => f c c", "(?0 -> ?0 -> ?1) -> ?1"}, {"c : ?2", "Cons(1, c)", "ErrRule"},
		// New ones are numbered around all of them, also those of names that are not used, or are hidden.
		{"c : ?0", "fun x => x", "?1 -> ?1"}, {"c : ?1", "fun x => fun y => x", "?0 -> ?2 -> ?0"}, {"c : ?1", "fun x => fun y => y x", "?0 -> (?0 -> ?2) -> ?2"}, {"c : ?0 -> ?2, d : cell ?1", "fun x => fun y => x y", "(?3 -> ?4) -> ?3 -> ?4"}, {"c : ?0, c : int", "chan", "chan ?1"}, {"c : ?0, c : ?2", "fun x => c", "?1 -> ?2"}, {"sum : ?0", "fun sum => sum", "?1 -> ?1"}, {"c : ?3", "fun x => fun y => fun z => c", "?0 -> ?1 -> ?2 -> ?3"}, {"c : ?3", "fun w => fun x => fun y => fun z => z", "?0 -> ?1 -> ?2 -> ?4 -> ?4"}, {"c : ?99 -> ?98", "fun x => c", "?0 -> ?99 -> ?98"}, {"c : ?1 -> ?0", "fun x => c", "?2 -> ?1 -> ?0"},
	})
}

// P3.2: holes are numbered as they come from left to right, whatever the order is in which they were found.
func TestInferNumbers(t *testing.T) {
	checkTypings(t, moduleOf(t, shop), []typing{
		{"", "let z = fun a => a in fun x => fun y => fun w => z y", "?0 -> ?1 -> ?2 -> ?1"}, {"", "fun f => fun x => f x x", "(?0 -> ?0 -> ?1) -> ?0 -> ?1"}, {"", "fun x => fun f => f x", "?0 -> (?0 -> ?1) -> ?1"}, {"", "let a = chan in let b = chan in fun f => f b a", "(chan ?0 -> chan ?1 -> ?2) -> ?2"}, {"", "fun x => fun y => y (x ())", "(unit -> ?0) -> (?0 -> ?1) -> ?1"},
		{"", "fun x => fun y => if true then fun z => x else fun w => y", "?0 -> ?0 -> ?1 -> ?0"}, {"", "fun x => fun y => let c = cell(x) in let d = put(c, y) in c", "?0 -> ?0 -> cell ?0"},
	})
}

// P3.2: a type is not to lie within itself, however it comes about.
func TestInferWithin(t *testing.T) {
	checkTypings(t, moduleOf(t, shop), []typing{
		{"", "fun x => x x", "ErrRule"}, {"", "fun f => fun x => f (x f)", "(?0 -> ?1) -> ((?0 -> ?1) -> ?0) -> ?1"}, {"", "fun f => f (fun x => f)", "ErrRule"}, {"", "fun x => if true then x else cell(x)", "ErrRule"}, {"", "fun x => fun y => let a = put(cell(x), cell(y)) in put(cell(y), cell(x))", "ErrRule"}, {"", "let c = chan in send(c, c)", "ErrRule"}, {"", "fun f => fun g => let a = f g in g f", "ErrRule"}, {"", "(fun x => x x) (fun x => x x)", "ErrRule"},
		{"", "fun a => fun b => let x = put(cell(a), fun z => b) in put(cell(b), fun z => a)", "ErrRule"},
	})
}

// P3.2: data types, constructors and functions whose names are there twice, and types without a data type: the first ones count, and nothing else is asked.
func TestInferOddModules(t *testing.T) {
	m := moduleOf(t, `module odd {
type A = X(int) | X | Y(Tree);
type B = X(bool) | Z(A, B);
type A = Y | V;
fun f(x : int) : Tree = true;
fun f(x : bool) : int = 1;
fun g(x : Tree) : int = none;
}`)
	checkTypings(t, m, []typing{
		{"", "X(1)", "A"}, {"", "X", "ErrRule"}, {"", "X(true)", "ErrRule"}, {"", "Y", "ErrRule"}, {"", "fun x => Y(x)", "Tree -> A"}, {"", "V", "A"}, {"", "fun x => Z(V, x)", "B -> B"}, {"", "Z(X(1), Z(V, shift k => 1))", "B"}, {"", "match V { X(x) -> x | Y(t) -> g t | V -> 0 }", "int"},
		{"", "f", "int -> Tree"}, {"", "f true", "ErrRule"}, {"", "g (f 1)", "int"}, {"", "Y(f 1)", "A"}, {"", "main", "ErrRule"}, {"", "fun x => g x", "Tree -> int"}, {"t : Bush", "g t", "ErrRule"},
	})
}

// tripled is a term in which y has a type with more than 27 times as many parts as that of another term.
func tripled(of, body string) string {
	return "let y = fun a => a (a (fun b => b (b (fun c => c (c (" + of + ")))))) in " + body
}

// P3.2: a type that would not be formed; that there is none comes first. Types within the term can be of any size.
func TestInferLong(t *testing.T) {
	m := moduleOf(t, `module big {
fun f(x : int -> int -> int -> int -> int) : int -> int -> int -> int -> int = x;
fun g(x : int) : int -> int -> int -> int -> int -> int = none;
fun h(x : int -> int -> int -> int -> int -> int) : int = 1;
fun k(x : cell int) : int -> int -> int -> int -> int = none;
}`)
	checkTypings(t, m, []typing{
		{"", "f", "ErrLong"}, {"", "h", "ErrLong"}, {"", "h (g 1)", "int"}, {"", "g 1", "int -> int -> int -> int -> int -> int"}, {"", "fun x => f x", "ErrLong"}, {"", "k", "cell int -> int -> int -> int -> int -> int"}, {"", "fun x => k (cell(x))", "int -> int -> int -> int -> int -> int"}, {"", "cell(g)", "ErrLong"}, {"", "let x = f in 1", "int"}, {"", "let x = f in x == x", "ErrRule"},
		{"", "fun a => fun b => fun c => fun d => fun e => e", "?0 -> ?1 -> ?2 -> ?3 -> ?4 -> ?4"}, {"", "fun a => fun b => fun c => fun d => fun e => fun f => f", "ErrLong"}, {"", "fun a => fun b => fun c => fun d => fun e => fun f => a == b", "ErrRule"}, {"", "let z = fun x => x == x in fun a => fun b => fun c => fun d => fun e => fun f => f", "ErrRule"},
		{"", "cell(fun a => fun b => fun c => fun d => fun e => e)", "cell (?0 -> ?1 -> ?2 -> ?3 -> ?4 -> ?4)"}, {"", "cell(cell(fun a => fun b => fun c => fun d => fun e => e))", "ErrLong"},
	})
}

// P3.2: types within a term can be of any size, also such with many thousand parts.
func TestInferLarge(t *testing.T) {
	m := moduleOf(t, shop)
	for _, c := range []struct{ body, want string }{
		{"1", "int"}, {"y", "ErrLong"}, {"y 1", "ErrRule"}, {"if true then y else y", "ErrLong"}, {"let x = put(cell(y), y) in 1", "int"}, {"y == y", "ErrRule"}, {"if true then y else cell(y)", "ErrRule"}, {"fun x => let z = put(x, y) in 1", "ErrLong"}, {"y y", "ErrRule"},
	} {
		u := termOf(t, tripled("1", tripled("y", tripled("y", c.body))))
		if got := inferred(t, m, nil, u); got != c.want {
			t.Errorf("%s: %s, not %s", c.body, got, c.want)
		}
	}
	twice := tripled("1", strings.ReplaceAll(tripled("1", "let x = if true then y else z in 1"), "let y", "let z"))
	if got := inferred(t, m, nil, termOf(t, twice)); got != "int" {
		t.Error("two large types that are equal:", got)
	}
	if got := inferred(t, m, nil, termOf(t, strings.Replace(twice, "c (1)", "c ()", 1))); got != "ErrRule" {
		t.Error("two large types that are not equal:", got)
	}
}

// P3.2: holes have numbers up to 99.
func TestInferNumbersLong(t *testing.T) {
	m := moduleOf(t, shop)
	var names []api.KindName
	for i := range 20 {
		k := holeOf(5 * i)
		for j := 1; j < 5; j++ {
			k = arrow(holeOf(5*i+j), k)
		}
		names = append(names, api.KindName{Name: "c", Type: k})
	}
	u := termOf(t, "fun x => fun y => x")
	if got := inferred(t, m, names, u); got != "ErrLong" {
		t.Error("no number is left:", got)
	}
	if got := inferred(t, m, names, termOf(t, "fun x => x + 1")); got != "int -> int" {
		t.Error("no number is asked for:", got)
	}
	if got := inferred(t, m, names, termOf(t, "chan == chan")); got != "ErrRule" {
		t.Error(got)
	}
	all := names[19].Type
	names[19].Type = all.Parts[1]
	if got := inferred(t, m, names, termOf(t, "chan")); got != "chan ?99" {
		t.Error("the last number is left:", got)
	}
	names[19].Type = all
	names[7].Type = names[7].Type.Parts[1]
	if got := inferred(t, m, names, u); got != "ErrLong" {
		t.Error("one number is left:", got)
	}
	if got := inferred(t, m, names, termOf(t, "chan")); got != "chan ?39" {
		t.Error("one number is left:", got)
	}
	names[19].Type = made(api.TypeInt)
	if got := inferred(t, m, names, u); got != "?39 -> ?95 -> ?39" {
		t.Error("some are left:", got)
	}
}

// P3.2: for many terms, with a type of which all are known, or with something changed in them.
func TestInferMany(t *testing.T) {
	m, d := moduleOf(t, shop), newDice(4)
	count := map[string]int{}
	for range 6000 {
		var names []api.KindName
		for range d.Intn(4) {
			names = append(names, api.KindName{Name: d.word(), Type: d.formedKind(2, 3)})
		}
		k := d.formedKind(3, 0)
		u := d.formed(names, k, 2+d.Intn(5))
		got, told := inferred(t, m, names, u), foretold(t, m, names, u)
		if got != told {
			t.Fatal(show(u), show(names), got, told)
		}
		if found, e := kind.Infer(m, names, u); e == api.OK && !isInstance(fixed(found, names), k, map[int]string{}) {
			t.Fatal(show(u), show(names), "has the type", show(k), "too:", got)
		}
		v := d.changed(u)
		if got, told := inferred(t, m, names, v), foretold(t, m, names, v); got != told {
			t.Fatal(show(v), show(names), got, told)
		} else if got == "ErrRule" || got == "ErrLong" {
			count[got]++
		}
		if got == "ErrRule" {
			count["unsaid"]++
		}
	}
	if count["ErrRule"] < 1000 || count["ErrLong"] > 2000 || count["unsaid"] > 1000 {
		t.Error("the dice are not good", count)
	}
}

// fixed returns a type with a data type in place of each hole of a given one, so that it stays what it is.
func fixed(k api.TermType, names []api.KindName) api.TermType {
	var given []int
	for _, n := range names {
		given = append(given, holesIn(n.Type)...)
	}
	return filled(k, func(n int) api.TermType {
		if slices.Contains(given, n) {
			return data("Given")
		}
		return holeOf(n)
	})
}

// P3.2: each instance of the type is one of the term: with its name, the term can be used where the instance is asked for.
func TestInferInstances(t *testing.T) {
	m, d := moduleOf(t, shop), newDice(5)
	for range 2000 {
		u := d.formed(nil, d.formedKind(2, 0), 2+d.Intn(3))
		k, e := kind.Infer(m, nil, u)
		if e != api.OK {
			continue
		}
		types := []api.TermType{made(api.TypeInt), data("List"), arrow(made(api.TypeInt), made(api.TypeUnit)), holeOf(9), made(api.TypeCell, holeOf(8))}
		first := d.Intn(len(types))
		instance := filled(k, func(n int) api.TermType { return types[(first+n)%len(types)] })
		use := node(api.TermApply, bind(api.TermName, "use"), u)
		if term.CheckType(arrow(instance, made(api.TypeInt))) != api.OK || term.Check(use) != api.OK {
			continue
		}
		names := []api.KindName{{Name: "use", Type: arrow(instance, made(api.TypeInt))}}
		if got := inferred(t, m, names, use); got != "int" {
			t.Fatal(show(u), show(k), show(instance), got)
		}
	}
}
