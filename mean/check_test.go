package mean_test

import (
	"testing"

	"hearth/api"
	"hearth/mean"
)

// house is a program with a node of each kind that worlds ask for: the body of main is the sum 0 of 1 and 2, that of the function 1 the TermFun 3, that of 2 the TermReset 5 of 6.
func house() api.BindProg {
	return api.BindProg{
		Nodes: []api.BindNode{node(api.TermAdd, 0, 1, 2), node(api.TermInt, 1), node(api.TermInt, 2), node(api.TermFun, 0, 4), node(api.TermName, 0), node(api.TermReset, 0, 6), node(api.TermUnit, 0)},
		Funs:  []int{0, 3, 5}, Cons: []api.BindCon{{Name: "Nil"}, {Name: "Cons", Args: 2}},
	}
}

// furnished is a world of the house with objects of all forms: the tasks are 5 to 8.
func furnished() api.MeanWorld {
	w := world(
		obj(api.MeanData, 1, in(1), ref(0)), obj(api.MeanFun, 3, code(2), is(1)), obj(api.MeanCell, 0, ref(9)), obj(api.MeanChan, 0, un(), in(-5)),
		kont(frame(5, vals(un()), nil), frame(0, nil, vals(in(1)))),
		goes(frame(0, vals(ref(2)), vals(in(3)))), back(goes(frame(5, nil, nil)), is(0)), obj(api.MeanTask, api.MeanDone, ref(5)), obj(api.MeanTask, api.MeanStuck),
		obj(api.MeanData, 0),
	)
	w.Outs, w.Ins, w.Used = []api.MeanOut{{Port: 0, N: -3}, {Port: 3, N: 8}}, []int{4, 5}, 7
	return w
}

// checkAs asks all functions about a world, and which of them refuses it.
func checkAs(t *testing.T, what any, p api.BindProg, w api.MeanWorld, want api.Errno) {
	t.Helper()
	if e := mean.Check(p, w); e != want {
		t.Error(what, "Check:", e)
	}
	_, order := mean.Order(p, w)
	_, left := mean.Alike(p, w, api.MeanWorld{})
	_, right := mean.Alike(p, api.MeanWorld{}, w)
	_, ready := mean.Ready(p, w)
	_, _, settle := mean.Settle(p, w)
	_, _, play := mean.Play(p, w, []int{0})
	for i, e := range []api.Errno{order, left, right, ready, settle, play} {
		if e != want {
			t.Error(what, "function", i, e)
		}
	}
	if _, _, _, e := mean.Turn(p, w, 0); e != want && (e != api.ErrNone || want != api.OK) {
		t.Error(what, "Turn:", e)
	}
	if _, _, e := mean.Step(p, w, 0); e != want && (e != api.ErrNone && len(w.Tasks) > 0 || want != api.OK) {
		t.Error(what, "Step:", e)
	}
}

// P6.1: what a world may be, and what it may not.
func TestCheck(t *testing.T) {
	type change = func(w *api.MeanWorld)
	put := func(at int, o api.MeanObj) change { return func(w *api.MeanWorld) { w.Objs[at] = o } }
	val := func(v api.MeanVal) change { return put(2, obj(api.MeanCell, 0, v)) }
	zero, ten := frame(0, nil, nil), times(10, un())
	reset, full := frame(5, nil, nil), frame(0, nil, vals(un(), un()))
	with := func(o api.MeanObj, n int, frames ...api.MeanFrame) api.MeanObj {
		o.N, o.Frames = n, frames
		return o
	}
	most := func(objs int) change {
		return func(w *api.MeanWorld) { w.Objs = append(w.Objs, times(objs-10, obj(api.MeanChan, 0))...) }
	}
	for i, x := range []struct {
		by   change
		want api.Errno
	}{
		{func(*api.MeanWorld) {}, api.OK},
		// values
		{val(in(api.TermMost)), api.OK}, {val(in(-api.TermMost)), api.OK}, {val(in(api.TermMost + 1)), api.ErrArg}, {val(in(-api.TermMost - 1)), api.ErrArg},
		{val(is(1)), api.OK}, {val(is(2)), api.ErrArg}, {val(is(-1)), api.ErrArg}, {val(un()), api.OK}, {val(api.MeanVal{Kind: api.MeanUnit, N: 1}), api.ErrArg},
		{val(code(0)), api.OK}, {val(code(2)), api.OK}, {val(code(3)), api.ErrArg}, {val(code(-1)), api.ErrArg}, {val(ref(2)), api.OK}, {val(ref(9)), api.OK}, {val(ref(10)), api.ErrArg}, {val(ref(-1)), api.ErrArg},
		{val(api.MeanVal{}), api.ErrArg}, {val(api.MeanVal{Kind: api.MeanRef + 1}), api.ErrArg}, {val(api.MeanVal{Kind: -1}), api.ErrArg},
		{put(0, obj(api.MeanData, 1, in(1), ref(10))), api.ErrArg}, {put(1, obj(api.MeanFun, 3, ref(10))), api.ErrArg}, {put(3, obj(api.MeanChan, 0, in(1), code(3))), api.ErrArg}, {put(7, obj(api.MeanTask, api.MeanDone, ref(10))), api.ErrArg},
		{put(4, kont(frame(5, vals(ref(10)), nil))), api.ErrArg}, {put(4, kont(reset, frame(0, nil, vals(ref(10))))), api.ErrArg}, {put(5, goes(frame(0, vals(un(), is(2)), nil))), api.ErrArg}, {put(5, goes(frame(0, nil, vals(is(2))))), api.ErrArg},
		// forms
		{put(9, api.MeanObj{}), api.ErrArg}, {put(9, obj(-1, 0)), api.ErrArg}, {put(9, obj(api.MeanTask+1, 0)), api.ErrArg},
		{put(9, obj(api.MeanData, 1)), api.ErrArg}, {put(9, obj(api.MeanData, 1, un(), un(), un())), api.ErrArg}, {put(9, obj(api.MeanData, 0, un())), api.ErrArg}, {put(9, obj(api.MeanData, 2)), api.ErrArg}, {put(9, obj(api.MeanData, -1)), api.ErrArg}, {put(9, with(obj(api.MeanData, 0), 0, reset)), api.ErrArg},
		{put(9, obj(api.MeanFun, 3)), api.OK}, {put(9, obj(api.MeanFun, 3, times(30, un())...)), api.OK}, {put(9, obj(api.MeanFun, 3, times(31, un())...)), api.ErrArg}, {put(9, obj(api.MeanFun, 4)), api.ErrArg}, {put(9, obj(api.MeanFun, 7)), api.ErrArg}, {put(9, obj(api.MeanFun, -1)), api.ErrArg}, {put(9, with(obj(api.MeanFun, 3), 3, reset)), api.ErrArg},
		{put(9, obj(api.MeanCell, 0)), api.ErrArg}, {put(9, obj(api.MeanCell, 0, un(), un())), api.ErrArg}, {put(9, obj(api.MeanCell, 1, un())), api.ErrArg}, {put(9, with(obj(api.MeanCell, 0, un()), 0, reset)), api.ErrArg},
		{put(9, obj(api.MeanChan, 0)), api.OK}, {put(9, obj(api.MeanChan, 0, ten[:4]...)), api.OK}, {put(9, obj(api.MeanChan, 0, ten[:5]...)), api.ErrArg}, {put(9, obj(api.MeanChan, 1)), api.ErrArg}, {put(9, with(obj(api.MeanChan, 0), 0, reset)), api.ErrArg},
		// continuations and frames
		{put(9, kont(reset)), api.OK}, {put(9, kont()), api.ErrArg}, {put(9, kont(zero)), api.ErrArg}, {put(9, kont(zero, reset)), api.ErrArg}, {put(9, kont(reset, reset)), api.OK}, {put(9, kont(reset, full)), api.ErrArg}, {put(9, kont(frame(5, nil, ten[:1]))), api.ErrArg}, {put(9, kont(reset, frame(3, nil, nil))), api.ErrArg},
		{put(9, kont(times(40, reset)...)), api.OK}, {put(9, kont(times(41, reset)...)), api.ErrArg}, {put(9, with(kont(), 1, reset)), api.ErrArg}, {put(9, back(kont(reset), un())), api.ErrArg},
		{put(9, kont(frame(5, times(30, un()), nil))), api.OK}, {put(9, kont(frame(5, times(31, un()), nil))), api.ErrArg}, {put(9, kont(frame(7, nil, nil))), api.ErrArg}, {put(9, kont(frame(-1, nil, nil))), api.ErrArg},
		// tasks
		{put(5, goes(zero)), api.OK}, {put(5, goes(full)), api.OK}, {put(5, goes(frame(0, nil, ten[:3]))), api.ErrArg}, {put(5, goes(frame(3, nil, nil))), api.OK}, {put(5, goes(frame(3, nil, ten[:1]))), api.ErrArg}, {put(5, goes(frame(1, nil, ten[:1]))), api.ErrArg},
		{put(5, goes()), api.ErrArg}, {put(5, back(goes(), un())), api.OK}, {put(5, obj(api.MeanTask, api.MeanGoes, un(), un())), api.ErrArg}, {put(5, with(obj(api.MeanTask, 0, un(), un()), 0, zero)), api.ErrArg}, {put(5, back(goes(zero), un())), api.OK}, {put(5, back(goes(full), un())), api.ErrArg}, {put(5, back(goes(frame(3, nil, nil)), un())), api.ErrArg},
		{put(5, goes(zero, full)), api.OK}, {put(5, goes(full, zero)), api.ErrArg}, {put(5, goes(frame(1, nil, nil), zero)), api.ErrArg}, {put(5, goes(zero, reset, zero)), api.OK}, {put(5, goes(times(40, zero)...)), api.OK}, {put(5, goes(times(41, zero)...)), api.ErrArg},
		{put(7, obj(api.MeanTask, api.MeanDone)), api.ErrArg}, {put(7, obj(api.MeanTask, api.MeanDone, un(), un())), api.ErrArg}, {put(7, with(obj(api.MeanTask, 0, un()), api.MeanDone, zero)), api.ErrArg},
		{put(8, obj(api.MeanTask, api.MeanLoose)), api.OK}, {put(8, obj(api.MeanTask, api.MeanFull)), api.OK}, {put(8, obj(api.MeanTask, 5)), api.ErrArg}, {put(8, obj(api.MeanTask, -1, un())), api.ErrArg}, {put(8, obj(api.MeanTask, api.MeanStuck, un())), api.ErrArg}, {put(8, obj(api.MeanTask, api.MeanFull, un())), api.ErrArg}, {put(8, with(obj(api.MeanTask, 0), api.MeanLoose, zero)), api.ErrArg}, {put(8, with(obj(api.MeanTask, 0), api.MeanStuck, zero)), api.ErrArg},
		// the lists of a world
		{func(w *api.MeanWorld) { w.Tasks = []int{8, 6, 5, 7} }, api.OK}, {func(w *api.MeanWorld) { w.Tasks = []int{5, 6, 7} }, api.ErrArg}, {func(w *api.MeanWorld) { w.Tasks = []int{5, 6, 7, 7} }, api.ErrArg}, {func(w *api.MeanWorld) { w.Tasks = []int{5, 6, 7, 8, 8} }, api.ErrArg},
		{func(w *api.MeanWorld) { w.Tasks = []int{5, 6, 7, 9} }, api.ErrArg}, {func(w *api.MeanWorld) { w.Tasks = []int{5, 6, 7, 10} }, api.ErrArg}, {func(w *api.MeanWorld) { w.Tasks = []int{5, 6, 7, -1} }, api.ErrArg}, {func(w *api.MeanWorld) { w.Tasks = nil }, api.ErrArg}, {func(w *api.MeanWorld) { w.Tasks[3] = 119 }, api.ErrArg}, {func(w *api.MeanWorld) { w.Tasks[3] = 120 }, api.ErrArg},
		{most(api.MeanObjs), api.OK}, {most(api.MeanObjs + 1), api.ErrArg},
		{func(w *api.MeanWorld) { w.Outs = make([]api.MeanOut, api.MeanOuts) }, api.OK}, {func(w *api.MeanWorld) { w.Outs = make([]api.MeanOut, api.MeanOuts+1) }, api.ErrArg}, {func(w *api.MeanWorld) { w.Outs[1].Port = 4 }, api.ErrArg}, {func(w *api.MeanWorld) { w.Outs[0].Port = -1 }, api.ErrArg},
		{func(w *api.MeanWorld) { w.Outs[0].N, w.Outs[1].N = -api.TermMost, api.TermMost }, api.OK}, {func(w *api.MeanWorld) { w.Outs[0].N = -api.TermMost - 1 }, api.ErrArg}, {func(w *api.MeanWorld) { w.Outs[1].N = api.TermMost + 1 }, api.ErrArg},
		{func(w *api.MeanWorld) { w.Ins = make([]int, api.MeanIns) }, api.OK}, {func(w *api.MeanWorld) { w.Ins = make([]int, api.MeanIns+1) }, api.ErrArg}, {func(w *api.MeanWorld) { w.Ins = []int{-api.TermMost, api.TermMost} }, api.OK}, {func(w *api.MeanWorld) { w.Ins[1] = api.TermMost + 1 }, api.ErrArg}, {func(w *api.MeanWorld) { w.Ins[0] = -api.TermMost - 1 }, api.ErrArg},
		{func(w *api.MeanWorld) { w.Used = api.TermMost }, api.OK}, {func(w *api.MeanWorld) { w.Used = api.TermMost + 1 }, api.ErrArg}, {func(w *api.MeanWorld) { w.Used = -1 }, api.ErrArg},
		{func(w *api.MeanWorld) { *w = api.MeanWorld{} }, api.OK},
	} {
		w := furnished()
		x.by(&w)
		checkAs(t, i, house(), w, x.want)
	}
}

// How many of its Kids a node asks for: a task with so many values below it is open, with one more it is none.
func TestAsks(t *testing.T) {
	asked := map[api.TermOp]int{
		api.TermInt: 0, api.TermBool: 0, api.TermUnit: 0, api.TermName: 0, api.TermFun: 0, api.TermApply: 2, api.TermLet: 1, api.TermIf: 1, api.TermAdd: 2, api.TermSub: 2, api.TermMul: 2, api.TermLess: 2, api.TermSame: 2, api.TermCon: 3, api.TermMatch: 1, api.TermCell: 1,
		api.TermGet: 1, api.TermPut: 2, api.TermSpawn: 1, api.TermJoin: 1, api.TermChan: 0, api.TermSend: 2, api.TermTake: 1, api.TermOut: 1, api.TermIn: 0, api.TermReset: 1, api.TermShift: 0, api.TermPause: 0,
	}
	for op := api.TermInt; op <= api.TermPause; op++ {
		p := allOps()
		for n := range 5 {
			want := api.OK
			if n > asked[op] {
				want = api.ErrArg
			}
			if e := mean.Check(p, world(goes(frame(nodeWith(p, op), nil, times(n, un()))))); e != want {
				t.Error(op, n, e)
			}
			if n >= asked[op] {
				want = api.ErrArg
			}
			if e := mean.Check(p, world(back(goes(frame(nodeWith(p, op), nil, times(n, un()))), un()))); e != want {
				t.Error(op, n, "and a value that comes back:", e)
			}
		}
	}
}

// allOps is a program with a function for each Op, whose body has it; its Kids are units.
func allOps() api.BindProg {
	kids := map[api.TermOp]int{
		api.TermFun: 1, api.TermApply: 2, api.TermLet: 2, api.TermIf: 3, api.TermAdd: 2, api.TermSub: 2, api.TermMul: 2, api.TermLess: 2, api.TermSame: 2, api.TermCon: 3, api.TermMatch: 3, api.TermCell: 1,
		api.TermGet: 1, api.TermPut: 2, api.TermSpawn: 1, api.TermJoin: 1, api.TermSend: 2, api.TermTake: 1, api.TermOut: 1, api.TermReset: 1, api.TermShift: 1,
	}
	p := api.BindProg{Cons: []api.BindCon{{Name: "Nil"}, {Name: "Three", Args: 3}}}
	for op := api.TermInt; op <= api.TermPause; op++ {
		at := len(p.Nodes)
		n := node(op, 0)
		switch op {
		case api.TermCon:
			n.N = 1
		case api.TermMatch:
			name := api.TermPat{Form: api.PatName}
			n.Pats = []api.TermPat{{Form: api.PatCon, N: 1, Parts: []api.TermPat{name, {Form: api.PatInt, N: 2}, name}}, {Form: api.PatBool}}
		case api.TermOut:
			n.N = 2
		}
		p.Funs, p.Nodes = append(p.Funs, at), append(p.Nodes, n)
		for range kids[op] {
			p.Nodes[at].Kids = append(p.Nodes[at].Kids, len(p.Nodes))
			p.Nodes = append(p.Nodes, node(api.TermUnit, 0))
		}
	}
	return p
}

// nodeWith returns the body that has an Op.
func nodeWith(p api.BindProg, op api.TermOp) int { return p.Funs[op-1] }
