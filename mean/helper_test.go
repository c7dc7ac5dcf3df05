package mean_test

import (
	"fmt"
	"slices"
	"strings"
	"testing"

	"hearth/api"
	"hearth/bind"
	"hearth/mean"
	"hearth/read"
)

// moduleA and moduleB are those of the chapter's examples.
const (
	moduleA = `module a {
  fun main(u : unit) : int = let c = cell(1) in let x = out(0, get(c)) in let y = put(c, input) in get(c) + 1;
}`
	moduleB = `module b {
  fun work(c : chan int) : unit = let x = send(c, 5) in send(c, 6);
  fun main(u : unit) : int = let c = chan in let t = spawn(fun u => work c) in take(c) + reset(1 + (shift k => k (k 10)));
}`
)

// Programs.

func moduleOf(t *testing.T, source string) api.TermModule {
	t.Helper()
	m, e := read.Module(source)
	if e != api.OK {
		t.Fatalf("%s: no module (%d)", source, e)
	}
	return m
}

func boundOf(t *testing.T, source string) api.BindProg {
	t.Helper()
	p, e := bind.Bind(moduleOf(t, source))
	if e != api.OK {
		t.Fatalf("%s: cannot be bound (%d)", source, e)
	}
	return p
}

// mainWith returns a module with lists, some functions, and a body of main, whose parameter is u.
func mainWith(funs, body string) string {
	return "module m {\ntype List = Nil | Cons(int, List);\ntype Pair = Pair(int, int) | Tri(int, int, int);\n" + funs + "\nfun main(u : unit) : int = " + body + ";\n}"
}

func node(op api.TermOp, n int, kids ...int) api.BindNode {
	return api.BindNode{Op: op, N: n, Kids: kids}
}

// oneFun is a program with one function, whose body is the node 0.
func oneFun(nodes ...api.BindNode) api.BindProg {
	return api.BindProg{Nodes: nodes, Funs: []int{0}}
}

// Values, objects and worlds.

func in(n int) api.MeanVal { return api.MeanVal{Kind: api.MeanInt, N: n} }

func is(n int) api.MeanVal { return api.MeanVal{Kind: api.MeanBool, N: n} }

func un() api.MeanVal { return api.MeanVal{Kind: api.MeanUnit} }

func code(n int) api.MeanVal { return api.MeanVal{Kind: api.MeanCode, N: n} }

func ref(n int) api.MeanVal { return api.MeanVal{Kind: api.MeanRef, N: n} }

func vals(l ...api.MeanVal) []api.MeanVal { return l }

func times[T any](n int, x T) []T { return slices.Repeat([]T{x}, n) }

func frame(node int, env, vals []api.MeanVal) api.MeanFrame {
	return api.MeanFrame{Node: node, Env: env, Vals: vals}
}

func obj(form api.MeanForm, n int, vals ...api.MeanVal) api.MeanObj {
	return api.MeanObj{Form: form, N: n, Vals: vals}
}

func goes(frames ...api.MeanFrame) api.MeanObj {
	return api.MeanObj{Form: api.MeanTask, Frames: frames}
}

func back(o api.MeanObj, v api.MeanVal) api.MeanObj {
	o.Vals = vals(v)
	return o
}

func kont(frames ...api.MeanFrame) api.MeanObj {
	return api.MeanObj{Form: api.MeanKont, Frames: frames}
}

// world is a world of some objects, whose tasks are in the order of their numbers.
func world(objs ...api.MeanObj) api.MeanWorld {
	w := api.MeanWorld{Objs: objs}
	for i, o := range objs {
		if o.Form == api.MeanTask {
			w.Tasks = append(w.Tasks, i)
		}
	}
	return w
}

// show writes any value: two values are equal just if their strings are. (Nil and empty lists are the same.)
func show(x any) string { return fmt.Sprintf("%+v", x) }

func same(a, b any) bool { return show(a) == show(b) }

// sameWorlds is quicker than same.
func sameWorlds(a, b api.MeanWorld) bool {
	return slices.EqualFunc(a.Objs, b.Objs, sameObjs) && slices.Equal(a.Tasks, b.Tasks) && slices.Equal(a.Outs, b.Outs) && slices.Equal(a.Ins, b.Ins) && a.Used == b.Used
}

func sameObjs(a, b api.MeanObj) bool {
	return a.Form == b.Form && a.N == b.N && slices.Equal(a.Vals, b.Vals) && slices.EqualFunc(a.Frames, b.Frames, func(f, g api.MeanFrame) bool {
		return f.Node == g.Node && slices.Equal(f.Env, g.Env) && slices.Equal(f.Vals, g.Vals)
	})
}

func noWorld(w api.MeanWorld) bool { return same(w, api.MeanWorld{}) }

// Copies.

// roomy returns what a function makes of each of some things, with room behind them, which a bad copy would share.
func roomy[T any](list []T, copied func(T) T) []T {
	out := make([]T, 0, len(list)+2)
	for _, x := range list {
		out = append(out, copied(x))
	}
	return out
}

func itself[T any](x T) T { return x }

func copyOfFrame(f api.MeanFrame) api.MeanFrame {
	return api.MeanFrame{Node: f.Node, Env: roomy(f.Env, itself), Vals: roomy(f.Vals, itself)}
}

func copyOfObj(o api.MeanObj) api.MeanObj {
	return api.MeanObj{Form: o.Form, N: o.N, Vals: roomy(o.Vals, itself), Frames: roomy(o.Frames, copyOfFrame)}
}

func deepCopy(w api.MeanWorld) api.MeanWorld {
	return api.MeanWorld{Objs: roomy(w.Objs, copyOfObj), Tasks: roomy(w.Tasks, itself), Outs: roomy(w.Outs, itself), Ins: roomy(w.Ins, itself), Used: w.Used}
}

// eachVal calls a function for all values within a world, which it can change: objects in order, in each its Vals, and then frame by frame.
func eachVal(w api.MeanWorld, do func(*api.MeanVal)) {
	all := func(l []api.MeanVal) {
		for i := range l {
			do(&l[i])
		}
	}
	for _, o := range w.Objs {
		all(o.Vals)
		for _, f := range o.Frames {
			all(f.Env)
			all(f.Vals)
		}
	}
}

// Events as texts.

func valText(v api.MeanVal) string {
	switch v {
	case un():
		return "()"
	case is(0):
		return "false"
	case is(1):
		return "true"
	case ref(0):
		return "*"
	case in(v.N):
		return fmt.Sprint(v.N)
	}
	return show(v)
}

func eventText(e api.MeanEvent) string {
	words := map[api.TermOp]string{api.TermCell: "cell", api.TermGet: "get", api.TermPut: "put", api.TermSpawn: "spawn", api.TermJoin: "join", api.TermChan: "chan", api.TermSend: "send", api.TermTake: "take", api.TermOut: "out", api.TermIn: "in", api.TermPause: "pause"}
	states := map[int]string{api.MeanStuck: "stuck", api.MeanLoose: "loose", api.MeanFull: "full"}
	word, known := words[e.Do]
	state, failed := states[e.N]
	switch {
	case e.Do == 0 && e.N == api.MeanDone:
		return fmt.Sprint(e.Task, " done ", valText(e.V))
	case e.Do == 0 && failed && e.V == api.MeanVal{}:
		return fmt.Sprint(e.Task, " ", state)
	case e.Do == api.TermOut:
		return fmt.Sprint(e.Task, " out ", e.N, "=", valText(e.V))
	case known && e.N == 0:
		return fmt.Sprint(e.Task, " ", word, " ", valText(e.V))
	}
	return show(e)
}

func eventsText(events []api.MeanEvent) string {
	var out []string
	for _, e := range events {
		out = append(out, eventText(e))
	}
	return strings.Join(out, "; ")
}

// What functions return, where they must.

func started(t *testing.T, p api.BindProg, ins ...int) api.MeanWorld {
	t.Helper()
	w, e := mean.Start(p, ins)
	if e != api.OK || mean.Check(p, w) != api.OK {
		t.Fatalf("Start: %v %d", show(w), e)
	}
	return w
}

func played(t *testing.T, p api.BindProg, w api.MeanWorld, picks ...int) (api.MeanWorld, string) {
	t.Helper()
	w, events, e := mean.Play(p, w, picks)
	if e != api.OK || mean.Check(p, w) != api.OK {
		t.Fatalf("Play: %v %d", show(w), e)
	}
	return w, eventsText(events)
}

func stepped(t *testing.T, p api.BindProg, w api.MeanWorld, task int) (api.MeanWorld, string) {
	t.Helper()
	v, event, e := mean.Step(p, w, task)
	if e != api.OK || mean.Check(p, v) != api.OK {
		t.Fatalf("Step of %v: %v %d", show(w), show(v), e)
	}
	if event == (api.MeanEvent{}) {
		return v, ""
	}
	return v, eventText(event)
}

func readyIn(t *testing.T, p api.BindProg, w api.MeanWorld) []int {
	t.Helper()
	l, e := mean.Ready(p, w)
	if e != api.OK {
		t.Fatalf("Ready in %v: %d", show(w), e)
	}
	return l
}

func inOrder(t *testing.T, p api.BindProg, w api.MeanWorld) api.MeanWorld {
	t.Helper()
	out, e := mean.Order(p, w)
	if e != api.OK || mean.Check(p, out) != api.OK {
		t.Fatalf("Order of %v: %v %d", show(w), show(out), e)
	}
	return out
}

func alike(t *testing.T, p api.BindProg, a, b api.MeanWorld) bool {
	t.Helper()
	is, e := mean.Alike(p, a, b)
	if e != api.OK {
		t.Fatalf("Alike of %v and %v: %d", show(a), show(b), e)
	}
	return is
}
