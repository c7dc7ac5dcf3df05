package mean_test

import (
	"testing"

	"hearth/api"
	"hearth/mean"
)

// eventsOf returns the events of a module, by picks of 0 as long as a task is ready, or by others.
func eventsOf(t *testing.T, source string, ins []int, picks ...int) string {
	t.Helper()
	if picks == nil {
		picks = make([]int, api.MeanTurns)
	}
	p := boundOf(t, source)
	_, events := played(t, p, started(t, p, ins...), picks...)
	return events
}

// The chapter's examples.
func TestExamples(t *testing.T) {
	a, b := boundOf(t, moduleA), boundOf(t, moduleB)
	first := started(t, a, 7)
	last, events := played(t, a, first, 0, 0, 0, 0, 0, 0, 0)
	if events != "0 cell 1; 0 get 1; 0 out 0=1; 0 in 7; 0 put 7; 0 get 7; 0 done 8" {
		t.Error(events)
	}
	if l := readyIn(t, a, first); !same(l, []int{0}) {
		t.Error("ready at first:", l)
	}
	if l := readyIn(t, a, last); len(l) > 0 {
		t.Error("ready at last:", l)
	}
	if want := (api.MeanWorld{Objs: []api.MeanObj{obj(api.MeanTask, api.MeanDone, in(8)), obj(api.MeanCell, 0, in(7))}, Tasks: []int{0}, Outs: []api.MeanOut{{Port: 0, N: 1}}, Used: 1}); !same(last, want) {
		t.Error(show(last))
	}
	if _, event, steps, e := mean.Turn(a, first, 0); eventText(event) != "0 cell 1" || steps != 8 || e != api.OK {
		t.Error(eventText(event), steps, e)
	}
	if _, events := played(t, a, started(t, a), 0, 0, 0, 0, 0); events != "0 cell 1; 0 get 1; 0 out 0=1" {
		t.Error(events)
	}
	last, events = played(t, b, started(t, b), 0, 0, 1, 1, 0, 0, 1)
	if events != "0 chan (); 0 spawn (); 1 send 5; 1 send 6; 0 take 5; 0 done 17; 1 done ()" {
		t.Error(events)
	}
	if w := inOrder(t, b, last); !same(w, world(obj(api.MeanTask, api.MeanDone, in(17)), obj(api.MeanTask, api.MeanDone, un()))) {
		t.Error(show(w))
	}
	const whole = `module m {
type List = Nil | Cons(int, List);
fun sum(l : List) : int = match l { Nil -> 0 | Cons(x, r) -> x + sum r };
fun main(u : unit) : unit = let c = cell(Cons(2 + 3, Nil)) in let x = put(c, Cons(input, get(c))) in out(1, sum (get(c)));
}`
	if got := eventsOf(t, whole, []int{7}); got != "0 cell *; 0 in 7; 0 get *; 0 put *; 0 get *; 0 out 1=12; 0 done ()" {
		t.Error(got)
	}
	if got := eventsOf(t, whole, nil); got != "0 cell *" {
		t.Error(got)
	}
}

// P6.1: the first world has settled already.
func TestStart(t *testing.T) {
	one, two := frame(0, vals(un()), nil), frame(1, vals(un()), nil)
	for _, x := range []struct {
		p    api.BindProg
		want api.MeanObj
	}{
		{oneFun(node(api.TermInt, 5)), back(goes(), in(5))},
		{oneFun(node(api.TermPause, 0)), goes(one)},
		{oneFun(node(api.TermReset, 0, 1), node(api.TermIn, 0)), goes(one, two)},
		{oneFun(node(api.TermReset, 0, 1), node(api.TermName, 1)), goes(one, two)},
		{oneFun(node(api.TermName, 0)), back(goes(), un())},
		{oneFun(node(api.TermName, -1)), back(goes(), code(0))},
		{api.BindProg{Nodes: []api.BindNode{node(api.TermInt, 1), node(api.TermInt, 2)}, Funs: []int{0, 1}, Main: 1}, back(goes(), in(2))},
		{api.BindProg{Nodes: []api.BindNode{node(api.TermInt, 1), node(api.TermInt, 2)}, Funs: []int{1, 0}, Main: 1}, back(goes(), in(1))},
	} {
		want := world(x.want)
		want.Ins = []int{3, -api.TermMost, api.TermMost}
		if w := started(t, x.p, want.Ins...); !same(w, want) {
			t.Error(show(x.p), show(w), show(want))
		}
	}
}

func TestStartRefuses(t *testing.T) {
	p := boundOf(t, moduleA)
	for _, ins := range [][]int{make([]int, api.MeanIns+1), {api.TermMost + 1}, {0, -api.TermMost - 1}, make([]int, 1000000), {1 << 62}} {
		if w, e := mean.Start(p, ins); !noWorld(w) || e != api.ErrArg {
			t.Error(len(ins), show(w), e)
		}
	}
	started(t, p, make([]int, api.MeanIns)...)
	for _, body := range []string{"main u", "main (1 + 2)", "(fun f => f f) (fun f => f f)", "if reset(1) == 1 then main u else 0"} {
		if w, e := mean.Start(boundOf(t, mainWith("", body)), nil); !noWorld(w) || e != api.ErrOpen {
			t.Error(body, show(w), e)
		}
	}
	if w, e := mean.Start(boundOf(t, mainWith("", "main u")), []int{api.TermMost + 1}); !noWorld(w) || e != api.ErrArg {
		t.Error("ErrArg comes first:", show(w), e)
	}
}

// P6.2, P6.3: what operations do, as schedules see it.
func TestOperations(t *testing.T) {
	const deep = "fun add(x : int) : int -> int = fun y => x - y;\nfun sum(l : List) : int = match l { Nil -> 0 | Cons(x, r) -> x + sum r };\nfun back(k : int -> int) : int = k 5;"
	for _, x := range []struct {
		body, want string
		ins        []int
	}{
		{"5", "0 done 5", nil},
		{"true", "0 done true", nil},
		{"false", "0 done false", nil},
		{"()", "0 done ()", nil},
		{"u", "0 done ()", nil},
		{"main", "0 done *", nil},
		{"fun x => x", "0 done *", nil},
		{"Nil", "0 done *", nil},
		{"(fun x => x + 1) 4", "0 done 5", nil},
		{"add 7 2", "0 done 5", nil},
		{"let f = add 7 in f 2 * f 3", "0 done 20", nil},
		{"let x = 3 in let x = x * x in x - 1", "0 done 8", nil},
		{"if 1 < 2 then 3 else 4", "0 done 3", nil},
		{"if 2 < 1 then 3 else 4", "0 done 4", nil},
		{"if 1 < 1 then 3 else 4", "0 done 4", nil},
		{"if true then 3 else main u", "0 done 3", nil},
		{"~5 - 3", "0 done -8", nil},
		{"~5 * ~3", "0 done 15", nil},
		{"~5 < 3", "0 done true", nil},
		{"1000000000 - 1 + 1", "0 done 1000000000", nil},
		{"~1000000000 + 0", "0 done -1000000000", nil},
		{"3 == 3", "0 done true", nil},
		{"3 == 4", "0 done false", nil},
		{"true == true", "0 done true", nil},
		{"true == false", "0 done false", nil},
		{"u == ()", "0 done true", nil},
		{"sum Cons(1, Cons(10, Cons(100, Nil)))", "0 done 111", nil},
		{"match Tri(1, 2, 3) { Pair(a, b) -> 0 | Tri(a, b, c) -> a * 100 + b * 10 + c }", "0 done 123", nil},
		{"match Cons(1, Cons(2, Nil)) { Cons(a, Nil) -> 0 | Cons(2, b) -> 1 | Cons(a, Cons(b, Nil)) -> a * 10 + b }", "0 done 12", nil},
		{"match 5 { 4 -> 0 | 5 -> 1 | 5 -> 2 | _ -> 3 }", "0 done 1", nil},
		{"match 5 { true -> 0 | () -> 1 | Nil -> 2 | x -> x + 1 }", "0 done 6", nil},
		{"match 1 { true -> 0 | _ -> 1 }", "0 done 1", nil},
		{"match true { 1 -> 0 | false -> 1 | true -> 2 }", "0 done 2", nil},
		{"match false { 0 -> 0 | true -> 1 | false -> 2 }", "0 done 2", nil},
		{"match u { 0 -> 0 | false -> 1 | () -> 2 }", "0 done 2", nil},
		{"match main { 0 -> 0 | Nil -> 1 | f -> 2 }", "0 done 2", nil},
		{"match (fun x => x) { Nil -> 1 | _ -> 2 }", "0 done 2", nil},
		{"reset(5)", "0 done 5", nil},
		{"reset(true)", "0 done true", nil},
		{"1 + reset(10 + (shift k => 100))", "0 done 101", nil},
		{"1 + reset(10 + (shift k => k 100))", "0 done 111", nil},
		{"1 + reset(10 + (shift k => k (k 100)))", "0 done 121", nil},
		{"reset(2 * reset(3 + (shift k => k 1 * k 2)))", "0 done 40", nil},
		{"reset(2 * reset(3 + (shift k => shift j => 7)))", "0 done 14", nil},
		{"reset(2 * (shift k => 1 + reset(back k)))", "0 done 11", nil},
		{"reset((shift k => k 1) + (shift k => k 2 * 10))", "0 done 30", nil},
		{"let k = reset(let x = (shift k => k) in x * 2) in k 4 + k 5", "0 done 18", nil},
		{"let x = 1 in reset(x + (shift k => let y = x in k y))", "0 done 2", nil},
		{"cell(5)", "0 cell 5; 0 done *", nil},
		{"let c = cell(5) in let x = put(c, get(c) + 1) in get(c)", "0 cell 5; 0 get 5; 0 put 6; 0 get 6; 0 done 6", nil},
		{"let c = cell(main) in put(c, cell(true))", "0 cell *; 0 cell true; 0 put *; 0 done ()", nil},
		{"let c = cell(1) in let d = cell(2) in let x = put(c, 3) in get(d) * 10 + get(c)", "0 cell 1; 0 cell 2; 0 put 3; 0 get 2; 0 get 3; 0 done 23", nil},
		{"join(spawn(fun v => if v == u then 7 else 8))", "0 spawn (); 1 done 7; 0 join 7; 0 done 7", nil},
		{"join(spawn(sum))", "0 spawn (); 1 loose; 0 loose", nil},
		{"join(spawn(fun v => join(spawn(fun w => v + 1))))", "0 spawn (); 1 spawn (); 2 stuck; 1 stuck; 0 stuck", nil},
		{"join(spawn(fun v => 1000000000 + 1))", "0 spawn (); 1 full; 0 full", nil},
		{"let t = spawn(reset(let x = (shift k => k) in if x == u then 1 else 2)) in join(t) + 1", "0 spawn (); 1 done 1; 0 join 1; 0 done 2", nil},
		{"let k = reset(let x = (shift k => k) in if x == u then 1 else 2) in join(spawn(k)) + join(spawn(k)) + k u", "0 spawn (); 1 done 1; 0 join 1; 0 spawn (); 2 done 1; 0 join 1; 0 done 3", nil},
		{"chan", "0 chan (); 0 done *", nil},
		{"let c = chan in let x = send(c, true) in let y = send(c, c) in let z = take(c) in take(c)", "0 chan (); 0 send true; 0 send *; 0 take true; 0 take *; 0 done *", nil},
		{"let c = chan in let x = send(c, 1) in let x = send(c, 2) in let x = send(c, 3) in let y = take(c) in let x = send(c, y) in let x = send(c, 5) in send(c, 6)", "0 chan (); 0 send 1; 0 send 2; 0 send 3; 0 take 1; 0 send 1; 0 send 5", nil},
		{"let c = chan in take(c)", "0 chan ()", nil},
		{"out(3, ~4)", "0 out 3=-4; 0 done ()", nil},
		{"out(0, input + input)", "0 in 3; 0 in -4; 0 out 0=-1; 0 done ()", []int{3, -4, 5}},
		{"input + input", "0 in 3", []int{3}},
		{"input", "", nil},
		{"let x = pause in 1", "0 pause (); 0 done 1", nil},
		{"pause", "0 pause (); 0 done ()", nil},
		{"out(0, 1) == pause", "0 out 0=1; 0 pause (); 0 done true", nil},
	} {
		if got := eventsOf(t, mainWith(deep, x.body), x.ins); got != x.want {
			t.Errorf("%s: %s, want %s", x.body, got, x.want)
		}
	}
}

// P6.2: a task that fails does so in a turn of its own, and what it did before stays.
func TestFailures(t *testing.T) {
	for _, x := range []struct{ body, want string }{
		{"1 + true", "stuck"}, {"u + 1", "stuck"}, {"1 - u", "stuck"}, {"main * 1", "stuck"}, {"1 < false", "stuck"}, {"u < 1", "stuck"},
		{"1 == true", "stuck"}, {"0 == false", "stuck"}, {"u == 0", "stuck"}, {"main == main", "stuck"}, {"Nil == Nil", "stuck"}, {"let c = cell(1) in c == c", "stuck"},
		{"1 2", "stuck"}, {"u u", "stuck"}, {"true 1", "stuck"}, {"(Nil) 1", "stuck"}, {"cell(1) 1", "stuck"}, {"chan 1", "stuck"},
		{"if 1 then 2 else 3", "stuck"}, {"if u then 2 else 3", "stuck"}, {"if Nil then 2 else 3", "stuck"},
		{"get(1)", "stuck"}, {"get(chan)", "stuck"}, {"get(Nil)", "stuck"}, {"put(1, 1)", "stuck"}, {"put(chan, 1)", "stuck"}, {"put(main, 1)", "stuck"},
		{"spawn(1)", "stuck"}, {"spawn(u)", "stuck"}, {"spawn(chan)", "stuck"}, {"spawn(Nil)", "stuck"}, {"join(1)", "stuck"}, {"join(main)", "stuck"}, {"join(chan)", "stuck"},
		{"send(1, 1)", "stuck"}, {"send(cell(1), 1)", "stuck"}, {"take(1)", "stuck"}, {"take(cell(1))", "stuck"},
		{"out(0, true)", "stuck"}, {"out(0, u)", "stuck"}, {"out(0, main)", "stuck"}, {"out(0, cell(1))", "stuck"},
		{"shift k => 1", "loose"}, {"reset(1) + (shift k => 1)", "loose"}, {"reset(shift k => shift j => shift i => 1 + u)", "stuck"}, {"let k = shift k => k in 1", "loose"},
		{"match 1 { 2 -> 1 }", "loose"}, {"match Nil { Cons(a, b) -> 1 }", "loose"}, {"match 1 { true -> 1 }", "loose"}, {"match u { Nil -> 1 }", "loose"}, {"match cell(1) { Pair(a, b) -> 1 }", "loose"},
		{"match Pair(1, 2) { Pair(1, 3) -> 1 | Pair(3, 2) -> 2 }", "loose"}, {"match Pair(1, true) { Pair(1, 1) -> 1 }", "loose"},
		{"1000000000 + 1", "full"}, {"~1000000000 - 1", "full"}, {"1000000000 * 1000000000", "full"}, {"1000000000 * ~1000000000", "full"}, {"100000 * 100000", "full"}, {"31622 * 31623", "done 999982506"},
	} {
		p := boundOf(t, mainWith("", "let v = out(1, 9) in ("+x.body+")"))
		w, events := played(t, p, started(t, p), times(9, 0)...)
		if got := events[max(0, len(events)-len(x.want)):]; got != x.want {
			t.Errorf("%s: %s, want %s at the end", x.body, events, x.want)
		}
		if o := w.Objs[0]; len(o.Frames) > 0 || o.N != api.MeanDone && len(o.Vals) > 0 || !same(w.Outs, []api.MeanOut{{Port: 1, N: 9}}) {
			t.Error(x.body, show(w))
		}
	}
}

// P6.3: of the ready tasks, in the order of Tasks, the one with the number of the pick takes its turn.
func TestPicks(t *testing.T) {
	const three = "let a = spawn(fun v => out(1, 1)) in let b = spawn(fun v => let y = input in out(2, y)) in let c = spawn(fun v => out(3, 3)) in let x = pause in join(b)"
	p := boundOf(t, mainWith("", three))
	w, events := played(t, p, started(t, p), 0, 0, -2)
	if events != "0 spawn (); 0 spawn (); 0 spawn ()" {
		t.Fatal(events)
	}
	if l := readyIn(t, p, w); !same(l, []int{0, 1, 3}) {
		t.Fatal("ready:", l)
	}
	for _, x := range []struct {
		pick int
		want string
	}{
		{0, "0 pause ()"}, {1, "1 out 1=1"}, {2, "3 out 3=3"}, {3, "0 pause ()"}, {-1, "3 out 3=3"}, {-2, "1 out 1=1"}, {-3, "0 pause ()"}, {300000001, "1 out 1=1"}, {1<<63 - 1, "1 out 1=1"}, {-1 << 63, "1 out 1=1"},
	} {
		v, event, _, e := mean.Turn(p, w, x.pick)
		if eventText(event) != x.want || e != api.OK {
			t.Error(x.pick, eventText(event), e)
		}
		if u, events := played(t, p, w, x.pick); events != x.want || !same(u, v) {
			t.Error(x.pick, events, show(u), show(v))
		}
	}
	w.Ins = []int{4}
	if _, events := played(t, p, w, 2, 2, 2, 0, 1, 0, 1, 1, 1, 0, 0); events != "2 in 4; 2 out 2=4; 2 done (); 0 pause (); 1 out 1=1; 0 join (); 1 done (); 3 out 3=3; 3 done (); 0 done ()" {
		t.Error(events)
	}
	w.Tasks[0], w.Tasks[3] = w.Tasks[3], w.Tasks[0]
	if l := readyIn(t, p, w); !same(l, []int{0, 1, 2, 3}) {
		t.Error("ready:", l)
	}
	if _, events := played(t, p, w, 0, 3); events != "0 out 3=3; 3 pause ()" {
		t.Error(events)
	}
}

// P6.3: a turn settles the world before and behind its event, and counts all steps; Ready and Step do not settle it.
func TestSettle(t *testing.T) {
	p := boundOf(t, mainWith("", "let a = 1 + 2 in out(0, a)"))
	first := world(goes(frame(p.Funs[p.Main], vals(un()), nil)))
	if l := readyIn(t, p, first); !same(l, []int{0}) {
		t.Error("ready:", l)
	}
	w, count := first, 0
	for {
		v, event := stepped(t, p, w, 0)
		if event != "" {
			if event != "0 out 0=3" {
				t.Error(event)
			}
			break
		}
		w, count = v, count+1
	}
	settled, steps, e := mean.Settle(p, first)
	if !same(settled, w) || steps != count || e != api.OK || !same(settled, started(t, p)) {
		t.Error(show(settled), steps, count, e)
	}
	if again, steps, e := mean.Settle(p, settled); !same(again, settled) || steps != 0 || e != api.OK {
		t.Error(show(again), steps, e)
	}
	v, event, steps, e := mean.Turn(p, first, 0)
	if eventText(event) != "0 out 0=3" || steps != count+1 || e != api.OK || !same(v, afterStep(t, p, settled)) {
		t.Error(show(v), eventText(event), steps, e)
	}
	if w, events := played(t, p, first); events != "" || !same(w, settled) {
		t.Error(events, show(w))
	}
}

// afterStep returns the world after a step and settling.
func afterStep(t *testing.T, p api.BindProg, w api.MeanWorld) api.MeanWorld {
	t.Helper()
	w, _ = stepped(t, p, w, 0)
	w, _, e := mean.Settle(p, w)
	if e != api.OK {
		t.Fatal(e)
	}
	return w
}

// Errors: a world in which no task is ready, places that are none, and too many picks, with zero values beside them.
func TestErrors(t *testing.T) {
	p := boundOf(t, mainWith("", "let t = spawn(fun v => input) in join(t)"))
	w, _ := played(t, p, started(t, p), 0)
	if l := readyIn(t, p, w); len(l) > 0 {
		t.Fatal("ready:", l)
	}
	if v, event, steps, e := mean.Turn(p, w, 0); !noWorld(v) || event != (api.MeanEvent{}) || steps != 0 || e != api.ErrNone {
		t.Error(show(v), event, steps, e)
	}
	if v, event, steps, e := mean.Turn(p, api.MeanWorld{}, 0); !noWorld(v) || event != (api.MeanEvent{}) || steps != 0 || e != api.ErrNone {
		t.Error(show(v), event, steps, e)
	}
	for place, want := range map[int]api.Errno{0: api.ErrNone, 1: api.ErrNone, 2: api.ErrArg, -1: api.ErrArg, 1 << 62: api.ErrArg, -1 << 63: api.ErrArg} {
		if v, event, e := mean.Step(p, w, place); !noWorld(v) || event != (api.MeanEvent{}) || e != want {
			t.Error(place, show(v), event, e)
		}
	}
	if v, events := played(t, p, w, times(api.MeanTurns, 0)...); events != "" || !same(v, w) {
		t.Error(events, show(v))
	}
	if v, events, e := mean.Play(p, w, times(api.MeanTurns+1, 0)); !noWorld(v) || len(events) > 0 || e != api.ErrArg {
		t.Error(show(v), events, e)
	}
	if _, events := played(t, p, api.MeanWorld{}, 1, 2, 3); events != "" {
		t.Error(events)
	}
}
