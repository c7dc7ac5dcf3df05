package mean

import (
	"slices"

	"hearth/api"
)

// runner makes the steps of the tasks of a world that is its own. Lists of values may stand in it at several places, so none of them is written to.
type runner struct {
	api.MeanWorld
	prog  api.BindProg
	steps int // of the turn, so far
}

// next returns what the next step of a task ends with. The step is not made.
func (r *runner) next(place int) (e end) {
	defer func() {
		if g, is := recover().(gaveUp); is {
			e = g.with
		}
	}()
	task := r.Objs[r.Tasks[place]]
	if task.N != api.MeanGoes {
		return waits{}
	}
	below := len(task.Frames) - 1
	if below < 0 {
		return ended{api.MeanDone, task.Vals}
	}
	top := task.Frames[below]
	if len(task.Vals) > 0 {
		top.Vals = slices.Concat(top.Vals, task.Vals)
		return change{keep: below, begun: []api.MeanFrame{top}}
	}
	if open(r.prog, top) {
		return r.kid(task)
	}
	s := step{runner: r, BindNode: r.prog.Nodes[top.Node], MeanFrame: top, under: task.Frames[:below], change: change{keep: below}}
	operations()[s.Op](&s)
	return s.change
}

// kid returns the end of a step that begins the next Kid of the top frame.
func (r *runner) kid(task api.MeanObj) end {
	if len(task.Frames) == api.MeanFrames {
		fail(api.MeanFull)
	}
	top := task.Frames[len(task.Frames)-1]
	kid := r.prog.Nodes[top.Node].Kids[len(top.Vals)]
	return change{keep: len(task.Frames), begun: []api.MeanFrame{{Node: kid, Env: top.Env}}}
}

// do makes a step of a task, whose end is known, and returns what is seen of it.
func (r *runner) do(place int, e end) api.MeanEvent {
	task := &r.Objs[r.Tasks[place]]
	switch e := e.(type) {
	case change:
		task.Frames = append(task.Frames[:e.keep], e.begun...)
		task.Vals = e.back
		for _, act := range e.acts {
			act()
		}
	case ended:
		*task = api.MeanObj{Form: api.MeanTask, N: e.state, Vals: e.value}
	}
	r.steps++
	return e.event(place)
}

// settle makes all plain steps, unless the turn becomes long by them. One pass is enough: no plain step makes a step of another task plain.
func (r *runner) settle() api.Errno {
	for place := range len(r.Tasks) {
		for r.steps <= api.MeanSteps {
			next := r.next(place)
			if next.notice() != isPlain {
				break
			}
			r.do(place, next)
		}
	}
	if r.steps > api.MeanSteps {
		return api.ErrOpen
	}
	return api.OK
}

// ready returns the places of the ready tasks.
func (r *runner) ready() []int {
	var out []int
	for place := range len(r.Tasks) {
		if r.next(place).notice() != isNone {
			out = append(out, place)
		}
	}
	return out
}

// turn does a turn. If no task is ready, the world has settled.
func (r *runner) turn(pick int) (api.MeanEvent, api.Errno) {
	r.steps = 0
	if e := r.settle(); e != api.OK {
		return api.MeanEvent{}, e
	}
	ready := r.ready()
	if len(ready) == 0 {
		return api.MeanEvent{}, api.ErrNone
	}
	place := ready[modulo(pick, len(ready))]
	seen := r.do(place, r.next(place))
	return seen, r.settle()
}

// modulo returns a number from 0 to n - 1, for a number below 0, too.
func modulo(a, n int) int { return (a%n + n) % n }

// play does a turn for each pick, as long as a task is ready. Without picks the world has only to settle.
func (r *runner) play(picks []int) ([]api.MeanEvent, api.Errno) {
	var events []api.MeanEvent
turns:
	for _, pick := range picks {
		seen, e := r.turn(pick)
		switch e {
		case api.OK:
			events = append(events, seen)
		case api.ErrNone:
			break turns
		default:
			return nil, e
		}
	}
	return events, r.settle()
}
