package mean

import (
	"slices"

	"hearth/api"
)

// step is the operation of a top frame, whose values are all there. It gathers what changes by it: until it has ended it can fail, or wait, and then nothing was done.
type step struct {
	*runner
	api.BindNode
	api.MeanFrame
	under []api.MeanFrame
	change
}

// asks returns how many of its Kids a node asks for.
func asks(n api.BindNode) int {
	switch n.Op {
	case api.TermFun, api.TermShift:
		return 0
	case api.TermLet, api.TermIf, api.TermMatch:
		return 1
	}
	return len(n.Kids)
}

// open reports whether a frame has less values than its node asks for.
func open(p api.BindProg, f api.MeanFrame) bool { return len(f.Vals) < asks(p.Nodes[f.Node]) }

func unit() api.MeanVal { return api.MeanVal{Kind: api.MeanUnit} }

func integer(n int) api.MeanVal { return api.MeanVal{Kind: api.MeanInt, N: n} }

func truth(is bool) api.MeanVal {
	if is {
		return api.MeanVal{Kind: api.MeanBool, N: 1}
	}
	return api.MeanVal{Kind: api.MeanBool}
}

// extended returns an environment with values at its end.
func extended(env []api.MeanVal, more ...api.MeanVal) []api.MeanVal {
	if len(env)+len(more) > api.MeanVals {
		fail(api.MeanFull)
	}
	return slices.Concat(env, more)
}

// What an operation ends with.

// returns lets a value come back.
func (s *step) returns(v api.MeanVal) { s.back = []api.MeanVal{v} }

// begins puts a frame of a Kid on top, with values at the end of the environment.
func (s *step) begins(kid int, more ...api.MeanVal) {
	s.begun = []api.MeanFrame{{Node: s.Kids[kid], Env: extended(s.Env, more...)}}
}

// shows makes the step an event.
func (s *step) shows(v api.MeanVal) {
	s.seen = []api.MeanEvent{{Do: s.Op, N: s.N, V: masked(v)}}
}

// then lets something be done when the step is made.
func (s *step) then(act func()) { s.acts = append(s.acts, act) }

// becomes gives an object other values.
func (s *step) becomes(object int, vals ...api.MeanVal) {
	s.then(func() { s.Objs[object].Vals = vals })
}

// adds makes an object, and returns a reference to it.
func (s *step) adds(o api.MeanObj) api.MeanVal {
	number := len(s.Objs)
	if number == api.MeanObjs {
		fail(api.MeanFull)
	}
	s.then(func() { s.Objs = append(s.Objs, o) })
	return api.MeanVal{Kind: api.MeanRef, N: number}
}

// What an operation asks of its values.

// number returns the N of one of the values, which must be of a kind.
func (s *step) number(val int, kind api.MeanKind) int {
	v := s.Vals[val]
	if v.Kind != kind {
		fail(api.MeanStuck)
	}
	return v.N
}

// is reports whether a value refers to an object of a form.
func (s *step) is(v api.MeanVal, form api.MeanForm) bool {
	return v.Kind == api.MeanRef && s.Objs[v.N].Form == form
}

// object returns the number of the object to which the first value refers, which must be of a form, and this object.
func (s *step) object(form api.MeanForm) (int, api.MeanObj) {
	v := s.Vals[0]
	if !s.is(v, form) {
		fail(api.MeanStuck)
	}
	return v.N, s.Objs[v.N]
}

// called returns the frame in which the first value, a function, is applied to another one.
func (s *step) called(to api.MeanVal) api.MeanFrame {
	if f := s.Vals[0]; f.Kind == api.MeanCode {
		return api.MeanFrame{Node: s.prog.Funs[f.N], Env: extended(nil, to)}
	}
	_, f := s.object(api.MeanFun)
	return api.MeanFrame{Node: s.prog.Nodes[f.N].Kids[0], Env: extended(f.Vals, to)}
}
