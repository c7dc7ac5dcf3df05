package mean_test

import (
	"testing"

	"hearth/api"
	"hearth/mean"
)

// crowd returns a world with a task that goes, its frames, and as many other objects as asked for: of these the first ones are given, all others are channels.
func crowd(others int, task api.MeanObj, first ...api.MeanObj) api.MeanWorld {
	objs := append([]api.MeanObj{task}, first...)
	return world(append(objs, times(others-len(first), obj(api.MeanChan, 0))...)...)
}

// P6.2: what there would be too much of makes a task fail, and what comes before that in the list of failures goes first. A step that fails does nothing else.
func TestLimits(t *testing.T) {
	p := allOps()
	units := func(n int) []api.MeanVal { return times(n, un()) }
	reset := frame(nodeWith(p, api.TermReset), nil, nil)
	top := func(op api.TermOp, env int, v ...api.MeanVal) api.MeanFrame {
		return frame(nodeWith(p, op), units(env), v)
	}
	task := func(op api.TermOp, env int, v ...api.MeanVal) api.MeanObj { return goes(reset, top(op, env, v...)) }
	fun := func(env int) api.MeanObj { return obj(api.MeanFun, nodeWith(p, api.TermFun), units(env)...) }
	three := obj(api.MeanData, 1, un(), in(2), un())
	high := func(below int, o api.MeanObj) api.MeanObj {
		o.Frames = append(times(below, reset), o.Frames[len(o.Frames)-1])
		return o
	}
	outs := func(n int, w api.MeanWorld) api.MeanWorld {
		w.Outs = make([]api.MeanOut, n)
		return w
	}
	used := func(n int, ins []int, w api.MeanWorld) api.MeanWorld {
		w.Used, w.Ins = n, ins
		return w
	}
	for i, x := range []struct {
		w    api.MeanWorld
		want string
	}{
		// frames
		{crowd(0, high(38, task(api.TermCell, 0))), ""}, {crowd(0, high(39, task(api.TermCell, 0))), "0 full"}, {crowd(0, high(39, task(api.TermFun, 0))), ""}, {crowd(0, high(39, task(api.TermLet, 0, un()))), ""}, {crowd(0, high(39, task(api.TermShift, 0))), ""}, {crowd(0, high(39, task(api.TermAdd, 0, un()))), "0 full"},
		{crowd(1, high(38, task(api.TermApply, 0, ref(1), un())), kont(reset, reset)), ""}, {crowd(1, high(39, task(api.TermApply, 0, ref(1), un())), kont(reset)), ""}, {crowd(1, high(39, task(api.TermApply, 0, ref(1), un())), kont(reset, reset)), "0 full"}, {crowd(1, high(0, task(api.TermApply, 0, ref(1), un())), kont(times(40, reset)...)), ""}, {crowd(1, high(1, task(api.TermApply, 0, ref(1), un())), kont(times(40, reset)...)), "0 full"},
		{crowd(1, high(39, task(api.TermSpawn, 0, ref(1))), kont(times(40, reset)...)), "0 spawn ()"}, {crowd(1, high(39, task(api.TermApply, 0, ref(1), un())), fun(0)), ""},
		// environments
		{crowd(1, task(api.TermApply, 30, ref(1), un()), fun(29)), ""}, {crowd(1, task(api.TermApply, 0, ref(1), un()), fun(30)), "0 full"}, {crowd(1, task(api.TermSpawn, 30, ref(1)), fun(29)), "0 spawn ()"}, {crowd(1, task(api.TermSpawn, 0, ref(1)), fun(30)), "0 full"}, {crowd(0, task(api.TermApply, 30, code(0), un())), ""},
		{crowd(0, task(api.TermLet, 29, un())), ""}, {crowd(0, task(api.TermLet, 30, un())), "0 full"}, {crowd(0, task(api.TermShift, 29)), ""}, {crowd(0, task(api.TermShift, 30)), "0 full"}, {crowd(0, task(api.TermFun, 30)), ""}, {crowd(0, task(api.TermIf, 30, is(0))), ""},
		{crowd(1, task(api.TermMatch, 28, ref(1)), three), ""}, {crowd(1, task(api.TermMatch, 29, ref(1)), three), "0 full"}, {crowd(0, task(api.TermMatch, 30, is(0))), ""}, {crowd(0, task(api.TermMatch, 30, is(1))), "0 loose"},
		// objects
		{crowd(118, task(api.TermFun, 0)), ""}, {crowd(119, task(api.TermFun, 0)), "0 full"}, {crowd(118, task(api.TermCon, 0, units(3)...)), ""}, {crowd(119, task(api.TermCon, 0, units(3)...)), "0 full"}, {crowd(118, task(api.TermCell, 0, un())), "0 cell ()"}, {crowd(119, task(api.TermCell, 0, un())), "0 full"},
		{crowd(118, task(api.TermSpawn, 0, code(0))), "0 spawn ()"}, {crowd(119, task(api.TermSpawn, 0, code(0))), "0 full"}, {crowd(119, task(api.TermSpawn, 0, ref(1)), kont(reset)), "0 full"}, {crowd(119, task(api.TermSpawn, 0, ref(1)), fun(0)), "0 full"}, {crowd(118, task(api.TermChan, 0)), "0 chan ()"}, {crowd(119, task(api.TermChan, 0)), "0 full"},
		{crowd(118, task(api.TermShift, 0)), ""}, {crowd(119, task(api.TermShift, 0)), "0 full"}, {crowd(119, task(api.TermLet, 0, un())), ""}, {crowd(119, task(api.TermSend, 0, ref(1), un())), "0 send ()"}, {crowd(119, task(api.TermPause, 0)), "0 pause ()"}, {crowd(119, back(goes(), un())), "0 done ()"}, {crowd(119, task(api.TermApply, 0, ref(1), un()), fun(0)), ""},
		// outputs, inputs, integers
		{outs(99, crowd(0, task(api.TermOut, 0, in(5)))), "0 out 2=5"}, {outs(100, crowd(0, task(api.TermOut, 0, in(5)))), "0 full"}, {outs(100, crowd(0, task(api.TermPause, 0))), "0 pause ()"},
		{used(api.TermMost-1, []int{6}, crowd(0, task(api.TermIn, 0))), "0 in 6"}, {used(api.TermMost, []int{6}, crowd(0, task(api.TermIn, 0))), "0 full"}, {used(api.TermMost, []int{6}, crowd(0, task(api.TermPause, 0))), "0 pause ()"},
		{crowd(0, task(api.TermAdd, 0, in(api.TermMost-1), in(1))), ""}, {crowd(0, task(api.TermAdd, 0, in(api.TermMost), in(1))), "0 full"}, {crowd(0, task(api.TermAdd, 0, in(-api.TermMost), in(-1))), "0 full"}, {crowd(0, task(api.TermSub, 0, in(1-api.TermMost), in(1))), ""}, {crowd(0, task(api.TermSub, 0, in(-api.TermMost), in(1))), "0 full"},
		{crowd(0, task(api.TermMul, 0, in(-api.TermMost), in(1))), ""}, {crowd(0, task(api.TermMul, 0, in(api.TermMost), in(-1))), ""}, {crowd(0, task(api.TermMul, 0, in(500000001), in(-2))), "0 full"}, {crowd(0, task(api.TermMul, 0, in(-api.TermMost), in(-api.TermMost))), "0 full"},
		// which failure
		{crowd(119, task(api.TermSpawn, 0, un())), "0 stuck"}, {outs(100, crowd(0, task(api.TermOut, 0, un()))), "0 stuck"}, {crowd(119, goes(top(api.TermShift, 30))), "0 loose"}, {crowd(119, task(api.TermName, 0)), "0 stuck"}, {crowd(0, task(api.TermAdd, 0, in(api.TermMost), un())), "0 stuck"}, {crowd(0, task(api.TermAdd, 0, un(), in(api.TermMost))), "0 stuck"},
		{crowd(1, task(api.TermSend, 0, ref(1), un()), obj(api.MeanChan, 0, units(3)...)), "0 send ()"}, {crowd(119, task(api.TermApply, 30, un(), un())), "0 stuck"},
	} {
		v, got := stepped(t, p, x.w, 0)
		if got != x.want {
			t.Errorf("%d: %q, want %q", i, got, x.want)
		}
		state := map[string]int{"0 stuck": api.MeanStuck, "0 loose": api.MeanLoose, "0 full": api.MeanFull}
		if n, failed := state[got]; failed {
			x.w.Objs[0] = obj(api.MeanTask, n)
			if !same(v, x.w) {
				t.Error(i, show(v))
			}
		}
	}
}

// P6.2: steps that wait.
func TestWaits(t *testing.T) {
	p := allOps()
	top := func(op api.TermOp, v ...api.MeanVal) api.MeanObj { return goes(frame(nodeWith(p, op), nil, v)) }
	used := crowd(0, top(api.TermIn))
	used.Used = api.TermMost
	for i, w := range []api.MeanWorld{
		crowd(0, top(api.TermIn)), used, crowd(1, top(api.TermTake, ref(1))), crowd(1, top(api.TermSend, ref(1), in(1)), obj(api.MeanChan, 0, times(4, un())...)),
		crowd(1, top(api.TermJoin, ref(1)), obj(api.MeanTask, api.MeanStuck)), crowd(0, top(api.TermJoin, ref(0))), crowd(1, top(api.TermJoin, ref(1)), top(api.TermJoin, ref(0))),
	} {
		if i == 4 {
			w.Objs[1] = top(api.TermIn)
		}
		if l := readyIn(t, p, w); len(l) > 0 {
			t.Error(i, "ready:", l)
		}
		if v, event, e := mean.Step(p, w, 0); !noWorld(v) || event != (api.MeanEvent{}) || e != api.ErrNone {
			t.Error(i, show(v), event, e)
		}
		if v, steps, e := mean.Settle(p, w); !same(v, w) || steps != 0 || e != api.OK {
			t.Error(i, show(v), steps, e)
		}
	}
}

// P6.1: limits that a program meets from its beginning on.
func TestLimitsFromStart(t *testing.T) {
	resets := func(n int) api.BindProg {
		p := api.BindProg{Funs: []int{0}}
		for i := range n {
			p.Nodes = append(p.Nodes, node(api.TermReset, 0, i+1))
		}
		p.Nodes = append(p.Nodes, node(api.TermUnit, 0))
		return p
	}
	lets := func(n int) api.BindProg {
		p := api.BindProg{Funs: []int{0}}
		for i := range n {
			p.Nodes = append(p.Nodes, node(api.TermLet, 0, 2*i+1, 2*i+2), node(api.TermInt, i))
		}
		p.Nodes = append(p.Nodes, node(api.TermName, n))
		return p
	}
	for i, x := range []struct {
		p    api.BindProg
		want string
	}{
		{resets(39), "0 done ()"}, {resets(40), "0 full"}, {lets(29), "0 done 28"},
		{boundOf(t, mainWith("fun f(n : int) : int = let x = out(0, n) in f (n + 1);", "f 1")), ""},
		{boundOf(t, mainWith("fun f(n : int) : int = let x = cell(n) in f (n + 1);", "f 1")), ""},
		{boundOf(t, mainWith("fun f(n : int) : int = 1 + f (let x = pause in n);", "f 1")), ""},
	} {
		_, got := played(t, x.p, started(t, x.p), times(api.MeanTurns, 0)...)
		if x.want == "" && (len(got) < 100 || got[len(got)-6:] != "0 full") || x.want != "" && got != x.want {
			t.Error(i, got)
		}
	}
	long := lets(29)
	long.Nodes[58] = node(api.TermLet, 0, 59, 60)
	long.Nodes = append(long.Nodes, node(api.TermUnit, 0), node(api.TermUnit, 0))
	if _, got := played(t, long, started(t, long), 0); got != "0 full" {
		t.Error(got)
	}
}

// loop is a program in which main counts down from a number, in 23 steps each time, and then does what its body has behind it.
func loop(t *testing.T, body string) api.BindProg {
	return boundOf(t, mainWith("fun f(x : int) : int = if x == 0 then 0 else f (x - 1);", body))
}

// loopWorld is the world before the first step, with tasks that take one step more each, and wait then.
func loopWorld(p api.BindProg, fillers int) api.MeanWorld {
	w := world(goes(frame(p.Funs[p.Main], vals(un()), nil)), obj(api.MeanChan, 0))
	for at, n := range p.Nodes {
		for range fillers {
			if n.Op == api.TermTake {
				w.Tasks = append(w.Tasks, len(w.Objs))
				w.Objs = append(w.Objs, back(goes(frame(at, nil, nil)), ref(1)))
			}
		}
	}
	return w
}

// P6.3: api.MeanSteps steps are not long, one more is.
func TestLong(t *testing.T) {
	const most = api.MeanSteps
	type turn struct {
		text  string
		steps int
		e     api.Errno
	}
	for i, x := range []struct {
		body    string
		fillers int
		settled int // steps until the world has settled; 0 if that is long
		turn    turn
		played  string
	}{
		{"let t = fun c => take(c) in f 0", 0, 22, turn{"0 done 0", 23, api.OK}, "0 done 0"},
		{"let t = fun c => take(c) in f 1", 0, 45, turn{"0 done 0", 46, api.OK}, "0 done 0"},
		{"let t = fun c => take(c) in f 216", 9, most - 1, turn{"0 done 0", most, api.OK}, "0 done 0"},
		{"let t = fun c => take(c) in f 216", 10, most, turn{"", 0, api.ErrOpen}, ""},
		{"let t = fun c => take(c) in f 216", 11, 0, turn{"", 0, api.ErrOpen}, ""},
		{"let t = fun c => take(c) in f 1000000000", 0, 0, turn{"", 0, api.ErrOpen}, ""},
		{"let t = fun c => take(c) in let x = pause in f 216", 5, 10, turn{"0 pause ()", most - 1, api.OK}, "0 pause (); 0 done 0"},
		{"let t = fun c => take(c) in let x = pause in f 216", 6, 11, turn{"0 pause ()", most, api.OK}, "0 pause (); 0 done 0"},
		{"let t = fun c => take(c) in let x = pause in f 216", 7, 12, turn{"", 0, api.ErrOpen}, ""},
		{"let t = fun c => take(c) in let x = pause in f 1000000000", 0, 5, turn{"", 0, api.ErrOpen}, ""},
		{"let t = fun c => take(c) in let x = f 216 in input", 7, most, turn{"", 0, api.ErrNone}, ""},
		{"let t = fun c => take(c) in let x = f 216 in input", 8, 0, turn{"", 0, api.ErrOpen}, ""},
	} {
		p := loop(t, x.body)
		w := loopWorld(p, x.fillers)
		settled, steps, e := mean.Settle(p, w)
		if steps != x.settled || e == api.OK != (x.settled > 0) || e != api.OK && (e != api.ErrOpen || !noWorld(settled)) {
			t.Error(i, "Settle:", steps, e)
		}
		v, events, f := mean.Play(p, w, nil)
		if f != e || !same(v, settled) || len(events) > 0 {
			t.Error(i, "Play without picks:", eventsText(events), f)
		}
		v, event, steps, e := mean.Turn(p, w, 0)
		if got := (turn{"", steps, e}); e != api.OK && (got != x.turn || event != api.MeanEvent{} || !noWorld(v)) {
			t.Error(i, "Turn:", got, event)
		}
		if got := (turn{eventText(event), steps, e}); e == api.OK && got != x.turn {
			t.Error(i, "Turn:", got)
		}
		want := x.turn.e
		if want == api.ErrNone {
			want = api.OK
		}
		v, events, e = mean.Play(p, w, times(9, 0))
		if got := eventsText(events); got != x.played || e != want || e != api.OK && !noWorld(v) {
			t.Error(i, "Play:", got, e)
		}
	}
}

// P6.3: a turn that is long gives up all turns before it.
func TestLongLater(t *testing.T) {
	p := loop(t, "let x = pause in let y = out(0, f 200) in let z = pause in f 300")
	w := started(t, p)
	if _, events := played(t, p, w, 0, 0); events != "0 pause (); 0 out 0=0" {
		t.Error(events)
	}
	if v, events, e := mean.Play(p, w, []int{0, 0, 0}); !noWorld(v) || len(events) > 0 || e != api.ErrOpen {
		t.Error(show(v), eventsText(events), e)
	}
}
