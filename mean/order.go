package mean

import (
	"iter"
	"slices"

	"hearth/api"
)

// refs goes through the numbers of the objects to which an object refers, in the order in which they stand in it.
func refs(o api.MeanObj) iter.Seq[int] {
	return func(yield func(int) bool) {
		var walk func(vals []api.MeanVal, frames []api.MeanFrame) bool
		walk = func(vals []api.MeanVal, frames []api.MeanFrame) bool {
			for _, v := range vals {
				if v.Kind == api.MeanRef && !yield(v.N) {
					return false
				}
			}
			return all(frames, func(f api.MeanFrame) bool { return walk(f.Env, nil) && walk(f.Vals, nil) })
		}
		walk(o.Vals, o.Frames)
	}
}

// ordered returns a world in order.
func ordered(w api.MeanWorld) api.MeanWorld {
	numbers := map[int]int{}
	var reached []int
	meet := func(n int) {
		if _, met := numbers[n]; !met {
			numbers[n] = len(reached)
			reached = append(reached, n)
		}
	}
	for _, n := range w.Tasks {
		meet(n)
	}
	for at := 0; at < len(reached); at++ {
		for n := range refs(w.Objs[reached[at]]) {
			meet(n)
		}
	}
	return moved(w, reached, func(n int) int { return numbers[n] })
}

// copied returns a world in which no two lists share memory.
func copied(w api.MeanWorld) api.MeanWorld {
	var numbers []int
	for n := range len(w.Objs) {
		numbers = append(numbers, n)
	}
	return moved(w, numbers, func(n int) int { return n })
}

// moved returns a world with some of the objects, by the numbers that a function tells, in memory of its own.
func moved(w api.MeanWorld, objs []int, number func(int) int) api.MeanWorld {
	val := func(v api.MeanVal) api.MeanVal {
		if v.Kind == api.MeanRef {
			v.N = number(v.N)
		}
		return v
	}
	frame := func(f api.MeanFrame) api.MeanFrame {
		return api.MeanFrame{Node: f.Node, Env: each(f.Env, val), Vals: each(f.Vals, val)}
	}
	obj := func(n int) api.MeanObj {
		o := w.Objs[n]
		return api.MeanObj{Form: o.Form, N: o.N, Vals: each(o.Vals, val), Frames: each(o.Frames, frame)}
	}
	return api.MeanWorld{Objs: each(objs, obj), Tasks: each(w.Tasks, number), Outs: slices.Concat(w.Outs), Ins: slices.Concat(w.Ins), Used: w.Used}
}

// each returns what a function makes of each of some things.
func each[T, U any](list []T, by func(T) U) []U {
	var out []U
	for _, x := range list {
		out = append(out, by(x))
	}
	return out
}

// equal reports whether two worlds are equal.
func equal(a, b api.MeanWorld) bool {
	return slices.EqualFunc(a.Objs, b.Objs, equalObj) && slices.Equal(a.Tasks, b.Tasks) && slices.Equal(a.Outs, b.Outs) && slices.Equal(a.Ins, b.Ins) && a.Used == b.Used
}

func equalObj(a, b api.MeanObj) bool {
	return a.Form == b.Form && a.N == b.N && slices.Equal(a.Vals, b.Vals) && slices.EqualFunc(a.Frames, b.Frames, equalFrame)
}

func equalFrame(a, b api.MeanFrame) bool {
	return a.Node == b.Node && slices.Equal(a.Env, b.Env) && slices.Equal(a.Vals, b.Vals)
}
