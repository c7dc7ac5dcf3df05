package mean

import "hearth/api"

// notice tells what others see of a step.
type notice int

const (
	isPlain notice = iota // nothing
	isEvent
	isNone // there is no step
)

// end is what a step ends with.
type end interface {
	notice() notice
	// event returns what is seen of a step of the task at a place, or the zero event.
	event(place int) api.MeanEvent
}

type (
	// change is the end of a step behind which the task goes on.
	change struct {
		keep  int             // so many frames stay
		begun []api.MeanFrame // these are put on top of them
		back  []api.MeanVal   // the value that comes back, if one does
		acts  []func()        // what the step does besides
		seen  []api.MeanEvent // one, if it is an event
	}
	// ended is the end of the task, in a state, with a value if it is done.
	ended struct {
		state int
		value []api.MeanVal
	}
	// waits is the end of a step that cannot be made, at least for now.
	waits struct{}
)

func (c change) notice() notice {
	if len(c.seen) == 0 {
		return isPlain
	}
	return isEvent
}

func (ended) notice() notice { return isEvent }

func (waits) notice() notice { return isNone }

func (c change) event(place int) api.MeanEvent {
	if c.notice() != isEvent {
		return api.MeanEvent{}
	}
	out := c.seen[0]
	out.Task = place
	return out
}

func (d ended) event(place int) api.MeanEvent {
	out := api.MeanEvent{Task: place, N: d.state}
	for _, v := range d.value {
		out.V = masked(v)
	}
	return out
}

func (waits) event(int) api.MeanEvent { return api.MeanEvent{} }

// masked returns a value as it stands in events, where the numbers of objects and of functions do not.
func masked(v api.MeanVal) api.MeanVal {
	if v.Kind == api.MeanCode || v.Kind == api.MeanRef {
		return api.MeanVal{Kind: api.MeanRef}
	}
	return v
}

// gaveUp is what a step gives up with when it fails, or waits.
type gaveUp struct{ with end }

func fail(state int) { panic(gaveUp{ended{state: state}}) }

func wait() { panic(gaveUp{waits{}}) }
