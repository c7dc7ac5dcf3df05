package mean_test

import (
	"slices"
	"testing"

	"hearth/api"
	"hearth/mean"
)

// slots returns where the elements of a list stand, with the room behind them.
func slots[T any](list []T) []any {
	var out []any
	for i := range list[:cap(list)] {
		out = append(out, &list[:cap(list)][i])
	}
	return out
}

// allSlots returns where the elements of all lists within a value stand: two lists share memory just if a place is met twice.
func allSlots(x any) []any {
	switch v := x.(type) {
	case []int:
		return slots(v)
	case []api.MeanEvent:
		return slots(v)
	case api.MeanWorld:
		out := slices.Concat(slots(v.Objs), slots(v.Tasks), slots(v.Outs), slots(v.Ins))
		for _, o := range v.Objs {
			out = slices.Concat(out, slots(o.Vals), slots(o.Frames))
			for _, f := range o.Frames {
				out = slices.Concat(out, slots(f.Env), slots(f.Vals))
			}
		}
		return out
	case api.BindProg:
		out := slices.Concat(slots(v.Nodes), slots(v.Funs), slots(v.Cons))
		for _, n := range v.Nodes {
			out = slices.Concat(out, slots(n.Kids), slots(n.Pats))
		}
		return out
	}
	return nil
}

// apart reports whether no two lists of some values share memory.
func apart(values ...any) bool {
	met := map[any]bool{}
	for _, v := range values {
		for _, s := range allSlots(v) {
			if met[s] {
				return false
			}
			met[s] = true
		}
	}
	return true
}

// room writes a world with the room behind its lists.
func room(w api.MeanWorld) string {
	w.Objs, w.Tasks, w.Outs, w.Ins = slices.Clone(w.Objs[:cap(w.Objs)]), w.Tasks[:cap(w.Tasks)], w.Outs[:cap(w.Outs)], w.Ins[:cap(w.Ins)]
	for i, o := range w.Objs {
		w.Objs[i].Vals, w.Objs[i].Frames = o.Vals[:cap(o.Vals)], slices.Clone(o.Frames[:cap(o.Frames)])
		for k, f := range w.Objs[i].Frames {
			w.Objs[i].Frames[k].Env, w.Objs[i].Frames[k].Vals = f.Env[:cap(f.Env)], f.Vals[:cap(f.Vals)]
		}
	}
	return show(w)
}

// results returns what all functions return.
func results(p api.BindProg, w api.MeanWorld, ins, picks []int, place int) []any {
	var out []any
	add := func(more ...any) { out = append(out, more...) }
	add(mean.Check(p, w))
	a, e := mean.Start(p, ins)
	add(a, e)
	a, e = mean.Order(p, w)
	add(a, e)
	is, e := mean.Alike(p, w, w)
	add(is, e)
	l, e := mean.Ready(p, w)
	add(l, e)
	a, n, e := mean.Settle(p, w)
	add(a, n, e)
	a, event, e := mean.Step(p, w, place)
	add(a, event, e)
	a, event, n, e = mean.Turn(p, w, place)
	add(a, event, n, e)
	a, events, e := mean.Play(p, w, picks)
	add(a, events, e)
	return out
}

// R4, R8: no argument is changed, results have memory of their own, and are the same when asked for again.
func TestMemory(t *testing.T) {
	d := newDice(6)
	for range 300 {
		p := d.prog(t)
		w, e := mean.Start(p, d.ins())
		if e != api.OK {
			continue
		}
		if w, _, e = mean.Play(p, w, d.picks(20)); e != api.OK {
			continue
		}
		w = deepCopy(d.shaken(p, w))
		ins, picks := roomy(d.ins(), itself), roomy(d.picks(5), itself)
		before, prog, lists := room(w), show(p), show(ins[:cap(ins)])+show(picks[:cap(picks)])
		place := d.Intn(len(w.Tasks))
		first, second := results(p, w, ins, picks, place), results(p, w, ins, picks, place)
		if !same(first, second) {
			t.Fatal(prog, before, "is not the same again")
		}
		if !apart(slices.Concat([]any{p, w, ins, picks}, first, second)...) {
			t.Fatal(prog, before, "memory is shared")
		}
		if room(w) != before || show(p) != prog || show(ins[:cap(ins)])+show(picks[:cap(picks)]) != lists {
			t.Fatal(prog, before, "was changed")
		}
	}
}

// R3: nil and empty lists are the same.
func TestEmptyLists(t *testing.T) {
	p := boundOf(t, moduleB)
	w, _ := played(t, p, started(t, p), 0, 0, 1)
	empty := deepCopy(w)
	for i, o := range empty.Objs {
		if len(o.Frames) == 0 {
			empty.Objs[i].Frames = []api.MeanFrame{}
		}
	}
	empty.Outs, empty.Ins = []api.MeanOut{}, []int{}
	if !alike(t, p, w, empty) || !same(results(p, w, nil, nil, 0), results(p, empty, []int{}, []int{}, 0)) {
		t.Error(show(w))
	}
}

// unformed returns programs that are not formed.
func unformed() []api.BindProg {
	unit := node(api.TermUnit, 0)
	ring := api.TermPat{Form: api.PatCon, Parts: make([]api.TermPat, 1)}
	ring.Parts[0] = ring
	endless := oneFun(api.BindNode{Op: api.TermMatch, Kids: []int{1, 2}, Pats: []api.TermPat{ring}}, unit, unit)
	endless.Cons = []api.BindCon{{Name: "A", Args: 1}}
	lost := oneFun(unit)
	lost.Main = 1 << 62
	return []api.BindProg{{}, oneFun(), oneFun(unit, unit), oneFun(node(0, 0)), oneFun(node(-1<<63, 0)), oneFun(node(api.TermGet, 0, 0)), oneFun(node(api.TermGet, 0, 1<<62)), oneFun(node(api.TermName, -1<<63)), oneFun(make([]api.BindNode, 1000000)...), lost, endless}
}

// refused asks all functions, which must return ErrArg, and zero values beside it.
func refused(t *testing.T, what any, p api.BindProg, w api.MeanWorld) {
	t.Helper()
	zero := []any{api.ErrArg, api.MeanWorld{}, api.ErrArg, false, api.ErrArg, []int(nil), api.ErrArg, api.MeanWorld{}, 0, api.ErrArg, api.MeanWorld{}, api.MeanEvent{}, api.ErrArg, api.MeanWorld{}, api.MeanEvent{}, 0, api.ErrArg, api.MeanWorld{}, []api.MeanEvent(nil), api.ErrArg}
	for _, place := range []int{0, -1, 1 << 62} {
		got := results(p, w, nil, []int{0, place}, place)
		got = slices.Delete(got, 1, 3) // Start gets no world
		if !same(got, zero) {
			t.Error(what, show(got))
		}
	}
}

// P0.12: programs that are not formed, with zero values beside the error.
func TestUnformed(t *testing.T) {
	for i, p := range unformed() {
		refused(t, i, p, api.MeanWorld{})
		refused(t, i, p, world(goes(frame(0, vals(un()), nil))))
		if w, e := mean.Start(p, nil); !noWorld(w) || e != api.ErrArg {
			t.Error(i, show(w), e)
		}
	}
}

// P0.12: worlds that are not as defined, with numbers and lengths of all sizes.
func TestUndefined(t *testing.T) {
	p := house()
	ends := []int{-1 << 63, -1, 1 << 20, 1<<63 - 1}
	many := make([]api.MeanVal, 1000000)
	var worlds []api.MeanWorld
	add := func(change func(w *api.MeanWorld)) {
		w := furnished()
		change(&w)
		worlds = append(worlds, w)
	}
	for _, n := range ends {
		for at := range furnished().Objs {
			add(func(w *api.MeanWorld) { w.Objs[at].N = n })
			add(func(w *api.MeanWorld) { w.Objs[at].Form = api.MeanForm(n) })
		}
		for kind := api.MeanKind(-1); kind < 8; kind++ {
			add(func(w *api.MeanWorld) { w.Objs[2].Vals[0] = api.MeanVal{Kind: kind + 100, N: n} })
		}
		for _, v := range vals(is(n), code(n), ref(n), api.MeanVal{Kind: api.MeanUnit, N: n}) {
			add(func(w *api.MeanWorld) { w.Objs[2].Vals[0] = v })
			add(func(w *api.MeanWorld) { w.Objs[4].Frames[0].Env[0] = v })
			add(func(w *api.MeanWorld) { w.Objs[5].Frames[0].Vals[0] = v })
		}
		add(func(w *api.MeanWorld) { w.Objs[4].Frames[0].Node = n })
		add(func(w *api.MeanWorld) { w.Objs[5].Frames[0].Node = n })
		add(func(w *api.MeanWorld) { w.Tasks[1] = n })
		add(func(w *api.MeanWorld) { w.Outs[1].Port = n })
	}
	for _, n := range []int{-1 << 63, 1<<63 - 1} {
		add(func(w *api.MeanWorld) { w.Outs[1].N = n })
		add(func(w *api.MeanWorld) { w.Ins[1] = n })
		add(func(w *api.MeanWorld) { w.Used = n })
	}
	for at := range furnished().Objs {
		add(func(w *api.MeanWorld) { w.Objs[at].Vals = many })
		add(func(w *api.MeanWorld) { w.Objs[at].Frames = make([]api.MeanFrame, 1000000) })
	}
	add(func(w *api.MeanWorld) { w.Objs = make([]api.MeanObj, 1000000) })
	add(func(w *api.MeanWorld) { w.Tasks = make([]int, 1000000) })
	add(func(w *api.MeanWorld) { w.Outs = make([]api.MeanOut, 1000000) })
	add(func(w *api.MeanWorld) { w.Ins = make([]int, 1000000) })
	add(func(w *api.MeanWorld) { w.Objs[5].Frames[0].Env = many })
	add(func(w *api.MeanWorld) { w.Objs[5].Frames[0].Vals = many })
	for i, w := range worlds {
		refused(t, i, p, w)
		if is, e := mean.Alike(p, furnished(), w); is || e != api.ErrArg {
			t.Error(i, "Alike:", is, e)
		}
	}
}
