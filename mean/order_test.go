package mean_test

import (
	"slices"
	"testing"

	"hearth/api"
	"hearth/mean"
)

// P6.4: worlds in order, by hand.
func TestOrder(t *testing.T) {
	p := house()
	reset := frame(5, vals(ref(4), un(), ref(3)), nil)
	w := world(
		obj(api.MeanCell, 0, ref(0)), obj(api.MeanCell, 0, in(1)), goes(reset, frame(0, vals(ref(7)), vals(ref(4)))), obj(api.MeanChan, 0, ref(5), ref(3)), obj(api.MeanData, 1, ref(9), ref(6)), kont(frame(5, vals(ref(6)), nil)),
		obj(api.MeanFun, 3, ref(4), ref(10)), obj(api.MeanCell, 0, code(0)), obj(api.MeanTask, api.MeanDone, ref(7)), obj(api.MeanData, 0), obj(api.MeanCell, 0, ref(2)), obj(api.MeanCell, 0, ref(1)),
	)
	w.Tasks = []int{8, 2}
	w.Outs, w.Ins, w.Used = []api.MeanOut{{Port: 1, N: 2}}, []int{3}, 4
	want := world(
		obj(api.MeanTask, api.MeanDone, ref(2)), goes(frame(5, vals(ref(3), un(), ref(4)), nil), frame(0, vals(ref(2)), vals(ref(3)))), obj(api.MeanCell, 0, code(0)), obj(api.MeanData, 1, ref(5), ref(6)), obj(api.MeanChan, 0, ref(7), ref(4)),
		obj(api.MeanData, 0), obj(api.MeanFun, 3, ref(3), ref(8)), kont(frame(5, vals(ref(6)), nil)), obj(api.MeanCell, 0, ref(1)),
	)
	want.Outs, want.Ins, want.Used = w.Outs, w.Ins, w.Used
	if got := inOrder(t, p, w); !same(got, want) {
		t.Error(show(got), "want", show(want))
	}
	if !alike(t, p, w, want) || !alike(t, p, want, w) {
		t.Error("not alike")
	}
	if got := inOrder(t, p, api.MeanWorld{Used: 3}); !same(got, api.MeanWorld{Used: 3}) {
		t.Error(show(got))
	}
	garbage := api.MeanWorld{Objs: []api.MeanObj{obj(api.MeanCell, 0, ref(1)), obj(api.MeanCell, 0, ref(0))}}
	if got := inOrder(t, p, garbage); !noWorld(got) || !alike(t, p, garbage, api.MeanWorld{}) {
		t.Error(show(got))
	}
}

// P6.4: worlds that differ in anything that is reached, or in anything else, are not alike.
func TestAlike(t *testing.T) {
	p := house()
	base := furnished()
	base.Objs[5].Frames = []api.MeanFrame{frame(5, vals(ref(0), ref(1), ref(2), ref(3), ref(4), ref(9), ref(6)), nil), frame(0, nil, vals(un()))}
	type change = func(w *api.MeanWorld)
	put := func(at int, o api.MeanObj) change { return func(w *api.MeanWorld) { w.Objs[at] = o } }
	for i, x := range []struct {
		by   change
		want bool
	}{
		{func(*api.MeanWorld) {}, true},
		{func(w *api.MeanWorld) { w.Objs = append(w.Objs, obj(api.MeanCell, 0, ref(3)), obj(api.MeanData, 0)) }, true},
		{func(w *api.MeanWorld) { w.Objs[2].Vals[0] = in(5) }, false}, {func(w *api.MeanWorld) { w.Objs[2].Vals[0] = ref(2) }, false}, {func(w *api.MeanWorld) { w.Objs[1].Vals[0] = code(1) }, false}, {func(w *api.MeanWorld) { w.Objs[1].Vals[1] = in(1) }, false}, {func(w *api.MeanWorld) { w.Objs[3].Vals = w.Objs[3].Vals[:1] }, false},
		{put(9, obj(api.MeanChan, 0)), false}, {put(9, obj(api.MeanCell, 0, un())), false}, {put(8, obj(api.MeanTask, api.MeanFull)), false}, {put(2, obj(api.MeanChan, 0, ref(9))), false},
		{func(w *api.MeanWorld) { w.Objs[4].Frames[1].Node = 5; w.Objs[4].Frames[1].Vals = nil }, false}, {func(w *api.MeanWorld) { w.Objs[4].Frames[1].Vals[0] = in(2) }, false}, {func(w *api.MeanWorld) { w.Objs[4].Frames[0].Env[0] = is(0) }, false}, {func(w *api.MeanWorld) { w.Objs[4].Frames[0].Env = nil }, false}, {func(w *api.MeanWorld) { w.Objs[4].Frames = w.Objs[4].Frames[:1] }, false},
		{func(w *api.MeanWorld) { w.Objs[6].Vals[0] = is(1) }, false}, {func(w *api.MeanWorld) { w.Objs[6].Vals = nil }, false}, {func(w *api.MeanWorld) { w.Objs[5].Frames[1].Node = 0; w.Objs[5].Frames[1].Vals = vals(un(), un()) }, false},
		{func(w *api.MeanWorld) { w.Tasks[0], w.Tasks[2] = w.Tasks[2], w.Tasks[0] }, false},
		{func(w *api.MeanWorld) { w.Outs[0].N++ }, false}, {func(w *api.MeanWorld) { w.Outs[0].Port++ }, false}, {func(w *api.MeanWorld) { w.Outs = w.Outs[:1] }, false}, {func(w *api.MeanWorld) { w.Ins[1]++ }, false}, {func(w *api.MeanWorld) { w.Ins = w.Ins[:1] }, false}, {func(w *api.MeanWorld) { w.Used++ }, false},
	} {
		w := deepCopy(base)
		x.by(&w)
		if mean.Check(p, w) != api.OK {
			t.Fatal(i, show(w), "is not as defined")
		}
		if alike(t, p, base, w) != x.want || alike(t, p, w, base) != x.want || same(inOrder(t, p, base), inOrder(t, p, w)) != x.want {
			t.Error(i, show(w))
		}
	}
}

// moved returns a world that is alike: with garbage among its objects, and other numbers.
func (d dice) moved(w api.MeanWorld) api.MeanWorld {
	w = deepCopy(w)
	count := len(w.Objs) + d.Intn(1+min(4, api.MeanObjs-len(w.Objs)))
	for len(w.Objs) < count {
		o := pick(d, obj(api.MeanCell, 0, ref(d.Intn(count))), obj(api.MeanChan, 0, ref(d.Intn(count)), un()), obj(api.MeanCell, 0, in(1)))
		w.Objs = append(w.Objs, copyOfObj(o))
	}
	numbers := d.Perm(count)
	eachVal(w, func(v *api.MeanVal) {
		if v.Kind == api.MeanRef {
			v.N = numbers[v.N]
		}
	})
	old := slices.Clone(w.Objs)
	for i, n := range numbers {
		w.Objs[n] = old[i]
	}
	for i, n := range w.Tasks {
		w.Tasks[i] = numbers[n]
	}
	return w
}

// isOrdered reports whether a world is another one in order, as the definition says it: object by object each one is met first where its number comes next, and is the other world's one.
func isOrdered(w, of api.MeanWorld) bool {
	from := map[int]int{} // the number of an object in the other world
	meet := func(n, old int) bool {
		if n == len(from) {
			for _, other := range from {
				if other == old {
					return false
				}
			}
			from[n] = old
		}
		return n < len(from) && from[n] == old
	}
	if len(w.Tasks) != len(of.Tasks) {
		return false
	}
	for i, n := range w.Tasks {
		if !meet(n, of.Tasks[i]) {
			return false
		}
	}
	for n := range w.Objs {
		old, met := from[n]
		if !met {
			return false
		}
		var a, b []api.MeanVal
		x, y := copyOfObj(w.Objs[n]), copyOfObj(of.Objs[old])
		eachVal(world(x), func(v *api.MeanVal) { a = append(a, *v); v.N *= 0 })
		eachVal(world(y), func(v *api.MeanVal) { b = append(b, *v); v.N *= 0 })
		if !sameObjs(x, y) {
			return false
		}
		for i, v := range a {
			if v.Kind == api.MeanRef && !meet(v.N, b[i].N) || v.Kind != api.MeanRef && v != b[i] {
				return false
			}
		}
	}
	return len(from) == len(w.Objs) && slices.Equal(w.Outs, of.Outs) && slices.Equal(w.Ins, of.Ins) && w.Used == of.Used
}

// atLimit reports whether the next step of a task fails as MeanFull.
func atLimit(p api.BindProg, w api.MeanWorld) bool {
	for place := range w.Tasks {
		if _, event, e := mean.Step(p, w, place); e == api.OK && event.Do == 0 && event.N == api.MeanFull {
			return true
		}
	}
	return false
}

// P6.4: what is alike goes on alike, as long as no world between turns is at a limit.
func TestGoesOnAlike(t *testing.T) {
	d := newDice(3)
	turns := 0
	for range 600 {
		p := d.prog(t)
		w, e := mean.Start(p, d.ins())
		if e != api.OK {
			continue
		}
		for _, pick := range d.picks(30) {
			if d.Intn(4) == 0 {
				w = d.shaken(p, w)
			}
			v := d.moved(w)
			order := inOrder(t, p, w)
			if !isOrdered(order, w) || !sameWorlds(inOrder(t, p, order), order) || !sameWorlds(inOrder(t, p, v), order) || !alike(t, p, v, w) || !alike(t, p, w, order) {
				t.Fatal(show(p), show(w), show(v), show(order))
			}
			w, _, e = mean.Settle(p, w)
			v, _, f := mean.Settle(p, v)
			if e != api.OK || atLimit(p, w) || atLimit(p, v) {
				break
			}
			x, event, count, g := mean.Turn(p, w, pick)
			y, seen, steps, h := mean.Turn(p, v, pick)
			if f != e || g != h || event != seen || steps != count || g == api.OK && !atLimit(p, x) && !atLimit(p, y) && !alike(t, p, x, y) {
				t.Fatal(show(p), show(w), show(v), pick, event, seen, f, g, h)
			}
			if g != api.OK {
				break
			}
			if w = x; d.Intn(2) == 0 {
				w = y
			}
			turns++
		}
	}
	if turns < 2000 {
		t.Error("turns:", turns)
	}
}
