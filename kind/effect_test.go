package kind_test

import (
	"slices"
	"testing"

	"hearth/api"
	"hearth/kind"
)

// P3.4: what the functions of the chapter's module can do.
func TestEffectsExample(t *testing.T) {
	m := example(t, "unit")
	if l, e := kind.Effects(m, 0); e != api.OK || len(l) > 0 {
		t.Error(l, e)
	}
	if l, e := kind.Effects(m, 1); e != api.OK || !slices.Equal(l, []api.TermOp{api.TermCell, api.TermGet, api.TermPut, api.TermOut, api.TermIn}) {
		t.Error(l, e)
	}
	if l, e := kind.Effects(example(t, "int"), 0); e != api.ErrRule || len(l) > 0 {
		t.Error("a module without types:", l, e)
	}
}

// P3.4: the Ops that stand in a body, in their order, each once.
func TestEffectsOfOps(t *testing.T) {
	for _, c := range []struct {
		body string
		want []api.TermOp
	}{
		{"()", nil}, {"let x = 1 + 2 * 3 - 4 in let b = x < x in let c = x == 1 in match A(x) { A(y) -> if b then () else (fun z => ()) true }", nil},
		{"let x = cell(1) in ()", []api.TermOp{api.TermCell}}, {"let f = fun x => get(x) in ()", []api.TermOp{api.TermGet}}, {"let f = fun x => put(x, 1) in ()", []api.TermOp{api.TermPut}},
		{"let f = fun x => spawn(x) in ()", []api.TermOp{api.TermSpawn}}, {"let f = fun x => join(x) in ()", []api.TermOp{api.TermJoin}}, {"let x = chan in ()", []api.TermOp{api.TermChan}}, {"let f = fun x => send(x, 1) in ()", []api.TermOp{api.TermSend}}, {"let f = fun x => take(x) in ()", []api.TermOp{api.TermTake}},
		{"out(2, 1)", []api.TermOp{api.TermOut}}, {"let x = input in ()", []api.TermOp{api.TermIn}}, {"let x = reset(1) in ()", []api.TermOp{api.TermReset}}, {"shift k => 1", []api.TermOp{api.TermShift}}, {"pause", []api.TermOp{api.TermPause}},
		{"if false then pause else ()", []api.TermOp{api.TermPause}}, {"match 1 { 1 -> () | 2 -> out(1, input) | _ -> pause }", []api.TermOp{api.TermOut, api.TermIn, api.TermPause}}, {"if true then pause else if true then pause else pause", []api.TermOp{api.TermPause}},
		{"let a = pause in let b = reset(shift k => input) in let c = out(0, take(chan)) in let d = send(chan, 1) in let e = join(spawn(fun u => ())) in put(cell(1), get(cell(2)))", []api.TermOp{api.TermCell, api.TermGet, api.TermPut, api.TermSpawn, api.TermJoin, api.TermChan, api.TermSend, api.TermTake, api.TermOut, api.TermIn, api.TermReset, api.TermShift, api.TermPause}},
	} {
		m := moduleOf(t, "module m { type D = A(int); fun main(u : unit) : unit = (); }")
		m.Funs[0].Body = termOf(t, c.body)
		l, e := kind.Effects(m, 0)
		if e != api.OK || !slices.Equal(l, c.want) {
			t.Errorf("%s: %v %d", c.body, l, e)
		}
	}
}

// P3.4: functions whose names stand in a body, also where a variable hides them, and so on.
func TestEffectsOfFunctions(t *testing.T) {
	in, out, pause, chans := api.TermIn, api.TermOut, api.TermPause, api.TermChan
	for _, c := range []struct {
		source string
		want   [][]api.TermOp
	}{
		{"fun f(x : int) : int = g x; fun g(x : int) : int = let y = pause in h x; fun h(x : int) : int = input; fun main(u : unit) : unit = out(1, 1);", [][]api.TermOp{{in, pause}, {in, pause}, {in}, {out}}},
		// They can go round, or stand in themselves.
		{"fun f(x : int) : int = g x + input; fun g(x : int) : int = let y = pause in f x; fun h(x : int) : int = h x; fun main(u : unit) : unit = let x = g in out(1, h 1);", [][]api.TermOp{{in, pause}, {in, pause}, nil, {out, in, pause}}},
		// Just their names have to stand there.
		{"fun f(x : int) : int = input; fun g(x : int) : int = let y = fun z => f in x; fun main(u : unit) : unit = let y = g in ();", [][]api.TermOp{{in}, {in}, {in}}},
		// Names that are bound stand there where they are used, and not where they are bound.
		{"fun f(x : int) : int = input; fun g(f : int) : int = f; fun h(x : int) : int = let f = x in x; fun i(x : int) : int = (fun f => f) x; fun main(u : unit) : unit = match 1 { f -> () };", [][]api.TermOp{{in}, {in}, nil, {in}, nil}},
		{"fun f(f : int) : int = f + input; fun main(main : unit) : unit = main;", [][]api.TermOp{{in}, nil}},
		// What uses a function is not used by it.
		{"fun f(x : int) : int = x; fun g(x : int) : int = f x + input; fun main(u : unit) : unit = let x = chan in send(x, f 1);", [][]api.TermOp{nil, {in}, {chans, api.TermSend}}},
	} {
		m := moduleOf(t, "module m {"+c.source+"}")
		before := show(m)
		for i, want := range c.want {
			if l, e := kind.Effects(m, i); e != api.OK || !slices.Equal(l, want) {
				t.Errorf("%s: %d: %v %d, not %v", c.source, i, l, e, want)
			}
		}
		if show(m) != before {
			t.Fatal("an argument was changed")
		}
	}
}

// P3.4: what is refused, and in which order.
func TestEffectsErrors(t *testing.T) {
	good, bad := example(t, "unit"), example(t, "int")
	unformed := example(t, "unit")
	unformed.Name = "M"
	for i, c := range []struct {
		m    api.TermModule
		fun  int
		want api.Errno
	}{
		{good, 2, api.ErrArg}, {good, -1, api.ErrArg}, {good, 1 << 62, api.ErrArg}, {good, -1 << 62, api.ErrArg}, {bad, 0, api.ErrRule}, {bad, 1, api.ErrRule}, {bad, 2, api.ErrArg}, {unformed, 0, api.ErrArg}, {api.TermModule{}, 0, api.ErrArg},
	} {
		if l, e := kind.Effects(c.m, c.fun); e != c.want || len(l) > 0 {
			t.Error(i, l, e)
		}
	}
}
