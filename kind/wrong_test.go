package kind_test

import (
	"testing"

	"hearth/api"
	"hearth/kind"
)

// P3.3: the module of the chapter: main ends with unit.
func TestWrongExample(t *testing.T) {
	if p, n, e := kind.Wrong(example(t, "int")); p != api.KindOfFun || n != 1 || e != api.OK {
		t.Error(p, n, e)
	}
	if p, n, e := kind.Wrong(example(t, "unit")); p != 0 || n != 0 || e != api.ErrNone {
		t.Error(p, n, e)
	}
	if a, b := kind.Module(example(t, "int")), kind.Module(example(t, "unit")); a != api.ErrRule || b != api.OK {
		t.Error(a, b)
	}
}

const rest = "fun main(u : unit) : unit = ();"

// P3.3: what is wrong first, and that the module has types just if nothing is.
func TestWrong(t *testing.T) {
	for _, c := range []struct {
		source string
		part   api.KindPart
		number int
	}{
		{rest, 0, 0},
		{"type A = X | Y(B); type B = A(A) | B;" + rest, 0, 0},
		// Names of data types.
		{"type A = X; type B = Y; type A = Z;" + rest, api.KindOfData, 2},
		{"type A = X; type A = Y; type A = Z;" + rest, api.KindOfData, 1},
		// Names of constructors, of one data type and of different ones.
		{"type A = X | Y | X;" + rest, api.KindOfData, 0}, {"type A = X; type B = Y | X;" + rest, api.KindOfData, 1}, {"type A = X; type B = Y; type C = Z | X | Y;" + rest, api.KindOfData, 2}, {"type A = X(int); type B = X(bool, int);" + rest, api.KindOfData, 1},
		{"type A = B; type B = A;" + rest, 0, 0}, // a data type and a constructor can have one name
		// Types that name no data type, as deep as they may stand.
		{"type A = X(B);" + rest, api.KindOfData, 0}, {"type A = X; type B = Y(A, int, C);" + rest, api.KindOfData, 1}, {"type A = X | Y(int -> cell chan task (bool -> Z));" + rest, api.KindOfData, 0}, {"type A = X(X);" + rest, api.KindOfData, 0}, {"type A = X(B); type B = Y(A, B);" + rest, 0, 0}, {"type A = X(int -> cell chan task (bool -> A));" + rest, 0, 0},
		// What comes first of several.
		{"type A = X(C); type A = Y;" + rest, api.KindOfData, 0}, {"type A = X; type A = Y(C);" + rest, api.KindOfData, 1}, {"type A = X(B); type C = X; fun f(x : int) : bool = x;", api.KindOfData, 0}, {"type A = X; type B = X; fun f(x : int) : bool = x;", api.KindOfData, 1},
		// Names of functions.
		{"fun f(x : int) : int = x; fun g(x : int) : int = x; fun f(x : int) : int = x;" + rest, api.KindOfFun, 2}, {"fun f(x : int) : int = 1;" + rest + "fun main(u : int) : int = 1;", api.KindOfFun, 2}, {rest + rest, api.KindOfFun, 1}, {"fun main(u : int) : int = 1;" + rest, api.KindOfFun, 1},
		// Types of functions.
		{"fun f(x : A) : int = 1;" + rest, api.KindOfFun, 0}, {"fun f(x : int) : A = shift k => 1;" + rest, api.KindOfFun, 0}, {"fun f(x : int) : int = 1; fun g(x : int -> cell A) : int = 1;" + rest, api.KindOfFun, 1}, {"fun f(x : int) : int = 1; fun g(x : int) : bool -> A = fun y => shift k => 1;" + rest, api.KindOfFun, 1}, {"type A = X; fun f(x : A) : A = x;" + rest, 0, 0},
		// There is a function main from unit.
		{"fun f(x : int) : int = x;", api.KindOfMain, 0}, {"fun f(x : unit) : unit = x; fun g(x : unit) : unit = x;", api.KindOfMain, 0}, {"fun main(u : int) : unit = ();", api.KindOfMain, 0}, {"fun main(u : unit -> unit) : unit = ();", api.KindOfMain, 0}, {"fun f(x : int) : bool = x; fun main(u : int) : unit = ();", api.KindOfFun, 0}, {"fun main(u : unit) : int = 1; fun f(x : int) : int = x;", 0, 0}, {"fun main(u : unit) : cell int -> bool = fun c => get(c) < 1;", 0, 0},
	} {
		wrongIs(t, c.source, c.part, c.number)
	}
}

func wrongIs(t *testing.T, source string, part api.KindPart, number int) {
	t.Helper()
	m := moduleOf(t, "module m {"+source+"}")
	before := show(m)
	p, n, e := kind.Wrong(m)
	f := kind.Module(m)
	if show(m) != before {
		t.Fatal("an argument was changed")
	}
	switch {
	case p != part || n != number:
	case part == 0 && e == api.ErrNone && f == api.OK:
		return
	case part != 0 && e == api.OK && f == api.ErrRule:
		return
	}
	t.Errorf("%s: %d, %d (%d), not %d, %d; Module: %d", source, p, n, e, part, number, f)
}

// P3.3: bodies have their types, among others.
func TestWrongBodies(t *testing.T) {
	const data = "type L = N | C(int, L);"
	for _, c := range []struct {
		fun string
		ok  bool
	}{
		{"fun f(x : int) : int = x + 1;", true}, {"fun f(x : bool) : int = x + 1;", false}, {"fun f(x : int) : bool = x + 1;", false}, {"fun f(x : int) : int = y;", false}, {"fun f(x : int) : int = f;", false}, {"fun f(x : int) : int = f (f x);", true}, {"fun f(x : int) : int = f true;", false}, {"fun f(x : int) : int = none x;", false},
		// A body whose type has holes has all of its instances.
		{"fun f(x : int) : bool -> bool = fun y => y;", true}, {"fun f(x : int) : L -> L = fun y => y;", true}, {"fun f(x : int) : L -> int = fun y => y;", false}, {"fun f(x : int) : L -> int = fun y => x;", true}, {"fun f(x : int) : chan L = chan;", true}, {"fun f(x : int) : cell L = chan;", false}, {"fun f(x : L) : (int -> L) -> L = fun y => y 1;", true}, {"fun f(x : L) : (bool -> L) -> L = fun y => y 1;", false}, {"fun f(x : unit) : L = shift k => 1;", true}, {"fun f(x : unit) : L = take(chan);", true}, {"fun f(x : unit) : (int -> int) -> int -> int = fun g => fun y => g (g y);", true}, {"fun f(x : unit) : (int -> bool) -> int -> bool = fun g => fun y => g (g y);", false},
		{"fun f(x : unit) : int -> int -> int -> int -> int = fun a => fun b => fun c => fun d => fun e => e;", false}, {"fun f(x : unit) : int = fun a => fun b => fun c => fun d => fun e => fun g => g;", false}, {"fun f(x : unit) : unit -> unit = fun x => x x;", false},
		// The Param hides functions, and is hidden by what the body binds.
		{"fun f(f : int) : int = f + 1;", true}, {"fun f(main : int) : int = main + 1;", true}, {"fun f(x : int) : bool = let x = true in x;", true}, {"fun f(x : L) : int = match x { N -> 0 | C(x, y) -> x + f y };", true}, {"fun f(x : L) : int = match x { N -> 0 | C(y, x) -> x + f x };", false},
		// Functions can use those behind them.
		{"fun f(x : unit) : unit = main x;", true}, {"fun f(x : unit) : int = main x;", false}, {"fun f(x : int) : unit = g x; fun g(x : int) : unit = main ();", true},
		// What is compared is said by the body alone.
		{"fun f(x : int) : bool = x == 1;", true}, {"fun f(x : int) : bool = x == x;", true}, {"fun f(x : L) : bool = x == x;", false}, {"fun f(x : bool) : bool -> bool = fun y => x == y;", true}, {"fun f(x : int) : int -> bool = fun y => y == y;", false}, {"fun f(x : int) : int = let g = fun y => y == y in 1;", false},
	} {
		part, number := api.KindPart(0), 0
		if !c.ok {
			part = api.KindOfFun
		}
		wrongIs(t, data+c.fun+rest, part, number)
		if !c.ok {
			number = 1
		}
		wrongIs(t, data+rest+c.fun, part, number)
	}
}

// P3.3: the function that is named is the first one whose body does not have its type, and it has it just if this is an instance of the most general type.
func TestWrongMany(t *testing.T) {
	d := newDice(8)
	count := map[api.KindPart]int{}
	for range 1500 {
		m := moduleOf(t, shop)
		for i := range m.Funs {
			f := &m.Funs[i]
			f.Param = d.word()
			f.Body = d.formed([]api.KindName{{Name: f.Param, Type: f.From}}, f.To, 1+d.Intn(4))
			if d.Intn(3) == 0 {
				f.Body = d.changed(f.Body)
			}
		}
		part, number := api.KindPart(0), 0
		for i, f := range m.Funs {
			k, e := kind.Infer(m, []api.KindName{{Name: f.Param, Type: f.From}}, f.Body)
			if part == 0 && (e != api.OK || !isInstance(k, f.To, map[int]string{})) {
				part, number = api.KindOfFun, i
			}
		}
		p, n, e := kind.Wrong(m)
		if p != part || n != number || (e == api.ErrNone) != (part == 0) || (kind.Module(m) == api.OK) != (part == 0) {
			t.Fatal(show(m), p, n, e)
		}
		count[part]++
	}
	if count[0] < 200 || count[api.KindOfFun] < 200 {
		t.Error("the dice are not good", count)
	}
}
