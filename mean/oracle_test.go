package mean_test

import (
	"fmt"
	"math/rand"
	"slices"
	"testing"

	"hearth/api"
	"hearth/mean"
)

// A second way to the meaning: a step is done at once in a copy of the world, which is thrown away if the step fails, or waits.

// verdict is what a step gives up with: the state in which the task ends, or none.
type verdict int

const waiting verdict = -1

func must(is bool, v verdict) {
	if !is {
		panic(v)
	}
}

type simulated struct {
	p     api.BindProg
	w     api.MeanWorld
	task  int
	event api.MeanEvent
	seen  bool
}

// simStep returns the world after a step of a task, the event, whether it is one, and whether there is a step.
func simStep(p api.BindProg, w api.MeanWorld, place int) (after api.MeanWorld, event api.MeanEvent, seen, made bool) {
	at := w.Tasks[place]
	defer func() {
		if v, gaveUp := recover().(verdict); gaveUp {
			after, event, seen, made = w, api.MeanEvent{}, false, false
			if v != waiting {
				after = deepCopy(w)
				after.Objs[at] = obj(api.MeanTask, int(v))
				event, seen, made = api.MeanEvent{Task: place, N: int(v)}, true, true
			}
		}
	}()
	must(w.Objs[at].N == api.MeanGoes, waiting)
	s := &simulated{p: p, w: deepCopy(w), task: at}
	s.step()
	s.event.Task = place
	if !s.seen {
		s.event = api.MeanEvent{}
	}
	return s.w, s.event, s.seen, true
}

func (s *simulated) o() *api.MeanObj { return &s.w.Objs[s.task] }

func (s *simulated) see(op api.TermOp, n int, v api.MeanVal) {
	if v.Kind >= api.MeanCode {
		v = ref(0)
	}
	s.seen, s.event = true, api.MeanEvent{Do: op, N: n, V: v}
}

func (s *simulated) step() {
	o := s.o()
	n := len(o.Frames)
	if len(o.Vals) > 0 && n == 0 {
		s.see(0, api.MeanDone, o.Vals[0])
		o.N = api.MeanDone
		return
	}
	if top := n - 1; len(o.Vals) > 0 {
		o.Frames[top].Vals, o.Vals = append(o.Frames[top].Vals, o.Vals...), nil
		return
	}
	f := o.Frames[n-1]
	node := s.p.Nodes[f.Node]
	asks := len(node.Kids)
	switch node.Op {
	case api.TermLet, api.TermIf, api.TermMatch:
		asks = 1
	case api.TermFun, api.TermShift:
		asks = 0
	}
	if len(f.Vals) < asks {
		must(n < api.MeanFrames, api.MeanFull)
		s.push(node.Kids[len(f.Vals)], f.Env)
		return
	}
	o.Frames = o.Frames[:n-1]
	s.operate(node, f)
}

func (s *simulated) push(node int, env []api.MeanVal, more ...api.MeanVal) {
	must(len(env)+len(more) <= api.MeanVals, api.MeanFull)
	s.o().Frames = append(s.o().Frames, frame(node, slices.Concat(env, more), nil))
}

func (s *simulated) give(v api.MeanVal) { s.o().Vals = vals(v) }

func (s *simulated) make(o api.MeanObj) api.MeanVal {
	must(len(s.w.Objs) < api.MeanObjs, api.MeanFull)
	s.w.Objs = append(s.w.Objs, copyOfObj(o))
	return ref(len(s.w.Objs) - 1)
}

func (s *simulated) form(v api.MeanVal) api.MeanForm {
	if v.Kind != api.MeanRef {
		return 0
	}
	return s.w.Objs[v.N].Form
}

func truthOf(b bool) api.MeanVal {
	if b {
		return is(1)
	}
	return is(0)
}

func (s *simulated) operate(n api.BindNode, f api.MeanFrame) {
	var u, v api.MeanVal
	if len(f.Vals) > 0 {
		u = f.Vals[0]
	}
	if len(f.Vals) > 1 {
		v = f.Vals[1]
	}
	switch op := n.Op; op {
	case api.TermInt:
		s.give(in(n.N))
	case api.TermBool:
		s.give(is(n.N))
	case api.TermUnit:
		s.give(un())
	case api.TermName:
		if n.N < 0 {
			s.give(code(-1 - n.N))
			return
		}
		must(n.N < len(f.Env), api.MeanStuck)
		s.give(f.Env[n.N])
	case api.TermFun:
		s.give(s.make(api.MeanObj{Form: api.MeanFun, N: f.Node, Vals: f.Env}))
	case api.TermLet:
		s.push(n.Kids[1], f.Env, u)
	case api.TermIf:
		must(u.Kind == api.MeanBool, api.MeanStuck)
		s.push(n.Kids[map[int]int{1: 1, 0: 2}[u.N]], f.Env)
	case api.TermAdd, api.TermSub, api.TermMul, api.TermLess:
		must(u.Kind == api.MeanInt && v.Kind == api.MeanInt, api.MeanStuck)
		got := map[api.TermOp]int{api.TermAdd: u.N + v.N, api.TermSub: u.N - v.N, api.TermMul: u.N * v.N}[op]
		must(got <= api.TermMost && got >= -api.TermMost, api.MeanFull)
		s.give(in(got))
		if op == api.TermLess {
			s.give(truthOf(u.N < v.N))
		}
	case api.TermSame:
		must(u.Kind == v.Kind && u.Kind <= api.MeanUnit, api.MeanStuck)
		s.give(truthOf(u.N == v.N))
	case api.TermCon:
		s.give(s.make(obj(api.MeanData, n.N, f.Vals...)))
	case api.TermMatch:
		for i, pat := range n.Pats {
			if names, matches := s.names(pat, u, vals()); matches {
				s.push(n.Kids[i+1], f.Env, names...)
				return
			}
		}
		panic(verdict(api.MeanLoose))
	case api.TermReset:
		s.give(u)
	case api.TermApply, api.TermSpawn, api.TermShift:
		s.control(n, f, u, v)
	default:
		s.act(n, u, v)
	}
}

func (s *simulated) names(p api.TermPat, v api.MeanVal, before []api.MeanVal) ([]api.MeanVal, bool) {
	switch p.Form {
	case api.PatName:
		return append(before, v), true
	case api.PatInt:
		return before, v == in(p.N)
	case api.PatBool:
		return before, v == is(p.N)
	case api.PatUnit:
		return before, v == un()
	case api.PatCon:
		matches := s.form(v) == api.MeanData && s.w.Objs[v.N].N == p.N
		for i := 0; matches && i < len(p.Parts); i++ {
			before, matches = s.names(p.Parts[i], s.w.Objs[v.N].Vals[i], before)
		}
		return before, matches
	}
	return before, true
}

func (s *simulated) control(n api.BindNode, f api.MeanFrame, u, v api.MeanVal) {
	o := s.o()
	if n.Op == api.TermShift {
		at := -1
		for i, below := range o.Frames {
			if s.p.Nodes[below.Node].Op == api.TermReset {
				at = i
			}
		}
		must(at >= 0, api.MeanLoose)
		k := s.make(kont(o.Frames[at:]...))
		s.o().Frames = s.o().Frames[:at+1]
		s.push(n.Kids[0], f.Env, k)
		return
	}
	kept := slices.Clone(o.Frames)
	if n.Op == api.TermSpawn {
		v, o.Frames = un(), nil
	}
	switch {
	case u.Kind == api.MeanCode:
		s.push(s.p.Funs[u.N], nil, v)
	case s.form(u) == api.MeanFun:
		fun := s.w.Objs[u.N]
		s.push(s.p.Nodes[fun.N].Kids[0], fun.Vals, v)
	case s.form(u) == api.MeanKont:
		o.Frames = append(o.Frames, s.w.Objs[u.N].Frames...)
		must(len(o.Frames) <= api.MeanFrames, api.MeanFull)
		s.give(v)
	default:
		panic(verdict(api.MeanStuck))
	}
	if n.Op == api.TermSpawn {
		began := copyOfObj(*o)
		o.Frames, o.Vals = kept, nil
		t := s.make(began)
		s.w.Tasks = append(s.w.Tasks, t.N)
		s.give(t)
		s.see(n.Op, 0, un())
	}
}

func (s *simulated) act(n api.BindNode, u, v api.MeanVal) {
	needs := map[api.TermOp]api.MeanForm{api.TermGet: api.MeanCell, api.TermPut: api.MeanCell, api.TermSend: api.MeanChan, api.TermTake: api.MeanChan, api.TermJoin: api.MeanTask}
	form, asked := needs[n.Op]
	must(!asked || s.form(u) == form, api.MeanStuck)
	var it *api.MeanObj
	if asked {
		it = &s.w.Objs[u.N]
	}
	shown, result := un(), un()
	switch n.Op {
	case api.TermCell:
		shown, result = u, s.make(obj(api.MeanCell, 0, u))
	case api.TermGet:
		shown, result = it.Vals[0], it.Vals[0]
	case api.TermPut:
		shown, it.Vals[0] = v, v
	case api.TermJoin:
		must(it.N != api.MeanGoes, waiting)
		must(it.N == api.MeanDone, verdict(it.N))
		shown, result = it.Vals[0], it.Vals[0]
	case api.TermChan:
		result = s.make(obj(api.MeanChan, 0))
	case api.TermSend:
		must(len(it.Vals) < api.MeanQueue, waiting)
		shown, it.Vals = v, append(it.Vals, v)
	case api.TermTake:
		must(len(it.Vals) > 0, waiting)
		shown, result, it.Vals = it.Vals[0], it.Vals[0], it.Vals[1:]
	case api.TermOut:
		must(u.Kind == api.MeanInt, api.MeanStuck)
		must(len(s.w.Outs) < api.MeanOuts, api.MeanFull)
		s.w.Outs, shown = append(s.w.Outs, api.MeanOut{Port: n.N, N: u.N}), u
	case api.TermIn:
		must(len(s.w.Ins) > 0, waiting)
		must(s.w.Used < api.TermMost, api.MeanFull)
		shown = in(s.w.Ins[0])
		result, s.w.Ins, s.w.Used = shown, s.w.Ins[1:], s.w.Used+1
	}
	s.give(result)
	s.see(n.Op, n.N, shown)
}

// simReady returns the ready tasks.
func simReady(p api.BindProg, w api.MeanWorld) []int {
	var out []int
	for place := range w.Tasks {
		if _, _, _, made := simStep(p, w, place); made {
			out = append(out, place)
		}
	}
	return out
}

// simSettle returns the world when it has settled, and the steps, which are at most one more than those that are left.
func simSettle(p api.BindProg, w api.MeanWorld, left int) (api.MeanWorld, int) {
	steps := 0
	for place := range w.Tasks {
		for steps <= left {
			v, _, seen, made := simStep(p, w, place)
			if !made || seen {
				break
			}
			w, steps = v, steps+1
		}
	}
	return w, steps
}

func simTurn(p api.BindProg, w api.MeanWorld, pick int) (api.MeanWorld, api.MeanEvent, int, api.Errno) {
	w, before := simSettle(p, w, api.MeanSteps)
	if before > api.MeanSteps {
		return api.MeanWorld{}, api.MeanEvent{}, 0, api.ErrOpen
	}
	ready := simReady(p, w)
	if len(ready) == 0 {
		return api.MeanWorld{}, api.MeanEvent{}, 0, api.ErrNone
	}
	for pick < 0 {
		pick += len(ready)
	}
	w, event, _, _ := simStep(p, w, ready[pick%len(ready)])
	w, behind := simSettle(p, w, api.MeanSteps-before-1)
	if before+1+behind > api.MeanSteps {
		return api.MeanWorld{}, api.MeanEvent{}, 0, api.ErrOpen
	}
	return w, event, before + 1 + behind, api.OK
}

// agrees asks both ways about a world: which tasks are ready, and each step; and whether worlds stay as defined, and grow only where they should (P6.2, P6.6).
func agrees(t *testing.T, p api.BindProg, w api.MeanWorld) {
	t.Helper()
	if mean.Check(p, w) != api.OK {
		t.Fatal(show(w), "is not as defined")
	}
	ready := readyIn(t, p, w)
	if want := simReady(p, w); !same(ready, want) {
		t.Fatal("ready in", show(w), ready, want)
	}
	for place := range w.Tasks {
		v, event, _, made := simStep(p, w, place)
		if !made {
			v = api.MeanWorld{}
		}
		got, seen, e := mean.Step(p, w, place)
		if !sameWorlds(got, v) || seen != event || e == api.OK != made || e != api.OK && e != api.ErrNone || made != slices.Contains(ready, place) {
			t.Fatal("step", place, "of", show(w), show(got), show(v), seen, event, e)
		}
		if made && (mean.Check(p, got) != api.OK || !follows(w, got)) {
			t.Fatal("step", place, "of", show(w), show(got))
		}
	}
}

// follows reports whether outputs, and inputs that were used, only became more, and the other ones less.
func follows(w, v api.MeanWorld) bool {
	k := v.Used - w.Used
	return len(v.Outs) >= len(w.Outs) && slices.Equal(v.Outs[:len(w.Outs)], w.Outs) && k >= 0 && k <= len(w.Ins) && slices.Equal(v.Ins, w.Ins[k:]) && len(v.Tasks) >= len(w.Tasks) && slices.Equal(v.Tasks[:len(w.Tasks)], w.Tasks)
}

// P6.2: every operation, with all values that it can get.
func TestEveryOperation(t *testing.T) {
	p := allOps()
	reset := frame(nodeWith(p, api.TermReset), nil, nil)
	base := world(
		goes(reset, reset), obj(api.MeanCell, 0, in(4)), obj(api.MeanChan, 0), obj(api.MeanChan, 0, is(1), ref(0)), obj(api.MeanChan, 0, times(4, un())...), obj(api.MeanFun, nodeWith(p, api.TermFun), in(1), in(2)), kont(reset, frame(nodeWith(p, api.TermAdd), vals(un()), vals(in(1)))),
		obj(api.MeanTask, api.MeanDone, ref(1)), obj(api.MeanTask, api.MeanStuck), obj(api.MeanTask, api.MeanLoose), obj(api.MeanTask, api.MeanFull), goes(reset), obj(api.MeanData, 1, in(8), in(2), ref(1)), obj(api.MeanData, 1, in(8), in(3), ref(1)), obj(api.MeanData, 0),
	)
	base.Ins = []int{9}
	pool := vals(in(0), in(1), in(-7), in(api.TermMost), in(-api.TermMost), is(0), is(1), un(), code(0), code(int(api.TermApply)-1))
	for i := range base.Objs {
		pool = append(pool, ref(i))
	}
	for op := api.TermInt; op <= api.TermPause; op++ {
		for _, u := range pool {
			for _, v := range pool {
				w := base
				w.Objs = slices.Clone(w.Objs)
				for asked := 3; ; asked-- {
					w.Objs[0] = goes(reset, reset, frame(nodeWith(p, op), vals(ref(3), in(5)), vals(u, v, u)[:asked]))
					if mean.Check(p, w) == api.OK {
						break
					}
				}
				agrees(t, p, w)
			}
		}
	}
}

// P6.2, P6.3: random programs, and worlds that do not belong to them but for their definition, turn by turn.
func TestRandom(t *testing.T) {
	d := newDice(1)
	met := map[string]int{}
	for range 900 {
		p := d.prog(t)
		w, e := mean.Start(p, d.ins())
		if e == api.ErrOpen {
			met["long"]++
			continue
		}
		for range 30 {
			if d.Intn(5) == 0 {
				w = d.shaken(p, w)
			}
			agrees(t, p, w)
			pick := d.Intn(9) - 3
			want, event, count, f := simTurn(p, w, pick)
			v, seen, steps, e := mean.Turn(p, w, pick)
			if !sameWorlds(v, want) || seen != event || steps != count || e != f {
				t.Fatal(show(p), show(w), show(v), show(want), seen, event, steps, count, e, f)
			}
			settled, steps, e := mean.Settle(p, w)
			if want, count := simSettle(p, w, api.MeanSteps); count <= api.MeanSteps && (!sameWorlds(settled, want) || steps != count || e != api.OK) {
				t.Fatal(show(p), show(w), show(settled), show(want), steps, count, e)
			}
			if again, steps, e := mean.Settle(p, settled); !sameWorlds(again, settled) || steps != 0 || e != api.OK {
				t.Fatal(show(settled), "does not stay", show(again), steps, e)
			}
			if f != api.OK {
				met[fmt.Sprint("error ", f)]++
				break
			}
			if met[fmt.Sprint("event ", int(seen.Do))]++; seen.Do == 0 {
				met[fmt.Sprint("state ", seen.N)]++
			}
			w = v
		}
	}
	for op := api.TermCell; op <= api.TermPause; op++ {
		if what := fmt.Sprint("event ", int(op)); op != api.TermReset && op != api.TermShift && met[what] < 20 {
			t.Error("met too seldom:", what, met[what])
		}
	}
	for _, what := range []string{"state 1", "state 2", "state 3", "state 4", "error 5", "error 8", "long"} {
		if met[what] < 2 {
			t.Error("met too seldom:", what, met[what])
		}
	}
}

// P6.3: picks can be played in parts, and a play is its turns.
func TestParts(t *testing.T) {
	d := newDice(2)
	for range 900 {
		p := d.prog(t)
		w, e := mean.Start(p, d.ins())
		if e != api.OK {
			continue
		}
		picks := d.picks(40)
		whole, events, e := mean.Play(p, w, picks)
		cut := d.Intn(len(picks) + 1)
		first, before, f := mean.Play(p, w, picks[:cut])
		if f != api.OK {
			if e != f {
				t.Fatal(show(p), show(w), e, f)
			}
			continue
		}
		second, behind, f := mean.Play(p, first, picks[cut:])
		if e != f || e == api.OK && (!sameWorlds(whole, second) || !slices.Equal(events, slices.Concat(before, behind)) || !follows(w, first) || !follows(first, second)) {
			t.Fatal(show(p), show(w), picks, cut, show(whole), show(second), e, f)
		}
		turned := w
		for i, pick := range picks {
			v, event, _, g := mean.Turn(p, turned, pick)
			if g == api.ErrNone {
				break
			}
			if g != api.OK && e != g || g == api.OK && e == api.OK && events[i] != event {
				t.Fatal(show(p), show(w), picks, i, event, e, g)
			}
			if turned = v; g != api.OK {
				break
			}
		}
		if e == api.OK && !sameWorlds(turned, whole) {
			t.Fatal(show(p), show(w), picks, show(turned), show(whole))
		}
	}
}

// dice throws programs and worlds; the same ones in each run.
type dice struct{ *rand.Rand }

func newDice(seed int64) dice { return dice{rand.New(rand.NewSource(seed))} }

func pick[T any](d dice, list ...T) T { return list[d.Intn(len(list))] }
