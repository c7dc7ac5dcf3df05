package mean

import (
	"slices"

	"hearth/api"
)

// operations returns the operation of each Op.
func operations() [api.TermPause + 1]func(*step) {
	return [...]func(*step){
		api.TermInt:   (*step).constant,
		api.TermBool:  (*step).constant,
		api.TermUnit:  (*step).constant,
		api.TermName:  (*step).name,
		api.TermFun:   (*step).function,
		api.TermApply: (*step).application,
		api.TermLet:   (*step).let,
		api.TermIf:    (*step).choice,
		api.TermAdd:   (*step).add,
		api.TermSub:   (*step).subtract,
		api.TermMul:   (*step).multiply,
		api.TermLess:  (*step).less,
		api.TermSame:  (*step).same,
		api.TermCon:   (*step).construction,
		api.TermMatch: (*step).match,
		api.TermCell:  (*step).cell,
		api.TermGet:   (*step).get,
		api.TermPut:   (*step).put,
		api.TermSpawn: (*step).spawn,
		api.TermJoin:  (*step).join,
		api.TermChan:  (*step).channel,
		api.TermSend:  (*step).send,
		api.TermTake:  (*step).take,
		api.TermOut:   (*step).output,
		api.TermIn:    (*step).input,
		api.TermReset: (*step).reset,
		api.TermShift: (*step).shift,
		api.TermPause: (*step).pause,
	}
}

func (s *step) constant() {
	kinds := [...]api.MeanKind{api.TermInt: api.MeanInt, api.TermBool: api.MeanBool, api.TermUnit: api.MeanUnit}
	s.returns(api.MeanVal{Kind: kinds[s.Op], N: s.N})
}

func (s *step) name() {
	switch {
	case s.N < 0:
		s.returns(api.MeanVal{Kind: api.MeanCode, N: -1 - s.N})
	case s.N < len(s.Env):
		s.returns(s.Env[s.N])
	default:
		fail(api.MeanStuck)
	}
}

func (s *step) function() {
	s.returns(s.adds(api.MeanObj{Form: api.MeanFun, N: s.Node, Vals: s.Env}))
}

func (s *step) application() {
	v := s.Vals[1]
	if !s.is(s.Vals[0], api.MeanKont) {
		s.begun = []api.MeanFrame{s.called(v)}
		return
	}
	_, kont := s.object(api.MeanKont)
	if s.keep+len(kont.Frames) > api.MeanFrames {
		fail(api.MeanFull)
	}
	s.begun = kont.Frames
	s.returns(v)
}

func (s *step) let() { s.begins(1, s.Vals[0]) }

func (s *step) choice() { s.begins(2 - s.number(0, api.MeanBool)) }

// pair returns two integers.
func (s *step) pair() (int, int) { return s.number(0, api.MeanInt), s.number(1, api.MeanInt) }

// result lets an integer come back that was computed.
func (s *step) result(n int) {
	if !withinTerms(n) {
		fail(api.MeanFull)
	}
	s.returns(integer(n))
}

func (s *step) add() {
	a, b := s.pair()
	s.result(a + b)
}

func (s *step) subtract() {
	a, b := s.pair()
	s.result(a - b)
}

func (s *step) multiply() {
	a, b := s.pair()
	s.result(a * b)
}

func (s *step) less() {
	a, b := s.pair()
	s.returns(truth(a < b))
}

func (s *step) same() {
	u, v := s.Vals[0], s.Vals[1]
	simple := u.Kind == api.MeanInt || u.Kind == api.MeanBool || u.Kind == api.MeanUnit
	if !simple || u.Kind != v.Kind {
		fail(api.MeanStuck)
	}
	s.returns(truth(u == v))
}

func (s *step) construction() {
	s.returns(s.adds(api.MeanObj{Form: api.MeanData, N: s.N, Vals: s.Vals}))
}

func (s *step) match() {
	for i, p := range s.Pats {
		if names, matches := s.matched(p, s.Vals[0]); matches {
			s.begins(i+1, names...)
			return
		}
	}
	fail(api.MeanLoose)
}

// matched returns the values of the names of a pattern, if it matches a value.
func (s *step) matched(p api.TermPat, v api.MeanVal) ([]api.MeanVal, bool) {
	switch p.Form {
	case api.PatAny:
		return nil, true
	case api.PatName:
		return []api.MeanVal{v}, true
	case api.PatInt:
		return nil, v == integer(p.N)
	case api.PatBool:
		return nil, v == truth(p.N == 1)
	case api.PatUnit:
		return nil, v == unit()
	}
	if !s.is(v, api.MeanData) || s.Objs[v.N].N != p.N {
		return nil, false
	}
	var out []api.MeanVal
	for i, part := range p.Parts {
		names, matches := s.matched(part, s.Objs[v.N].Vals[i])
		if !matches {
			return nil, false
		}
		out = append(out, names...)
	}
	return out, true
}

func (s *step) cell() {
	u := s.Vals[0]
	s.shows(u)
	s.returns(s.adds(api.MeanObj{Form: api.MeanCell, Vals: []api.MeanVal{u}}))
}

func (s *step) get() {
	_, cell := s.object(api.MeanCell)
	s.shows(cell.Vals[0])
	s.returns(cell.Vals[0])
}

func (s *step) put() {
	at, _ := s.object(api.MeanCell)
	s.becomes(at, s.Vals[1])
	s.shows(s.Vals[1])
	s.returns(unit())
}

func (s *step) spawn() {
	task := api.MeanObj{Form: api.MeanTask}
	if s.is(s.Vals[0], api.MeanKont) {
		_, kont := s.object(api.MeanKont)
		task.Frames, task.Vals = slices.Clone(kont.Frames), []api.MeanVal{unit()}
	} else {
		task.Frames = []api.MeanFrame{s.called(unit())}
	}
	added := s.adds(task)
	s.then(func() { s.Tasks = append(s.Tasks, added.N) })
	s.shows(unit())
	s.returns(added)
}

func (s *step) join() {
	_, task := s.object(api.MeanTask)
	switch task.N {
	case api.MeanGoes:
		wait()
	case api.MeanDone:
		s.shows(task.Vals[0])
		s.returns(task.Vals[0])
	default:
		fail(task.N)
	}
}

func (s *step) channel() {
	s.shows(unit())
	s.returns(s.adds(api.MeanObj{Form: api.MeanChan}))
}

func (s *step) send() {
	at, channel := s.object(api.MeanChan)
	if len(channel.Vals) == api.MeanQueue {
		wait()
	}
	s.becomes(at, slices.Concat(channel.Vals, s.Vals[1:])...)
	s.shows(s.Vals[1])
	s.returns(unit())
}

func (s *step) take() {
	at, channel := s.object(api.MeanChan)
	if len(channel.Vals) == 0 {
		wait()
	}
	s.becomes(at, channel.Vals[1:]...)
	s.shows(channel.Vals[0])
	s.returns(channel.Vals[0])
}

func (s *step) output() {
	out := api.MeanOut{Port: s.N, N: s.number(0, api.MeanInt)}
	if len(s.Outs) == api.MeanOuts {
		fail(api.MeanFull)
	}
	s.then(func() { s.Outs = append(s.Outs, out) })
	s.shows(s.Vals[0])
	s.returns(unit())
}

func (s *step) input() {
	if len(s.Ins) == 0 {
		wait()
	}
	if s.Used == api.TermMost {
		fail(api.MeanFull)
	}
	in := integer(s.Ins[0])
	s.then(func() {
		s.Ins = s.Ins[1:]
		s.Used++
	})
	s.shows(in)
	s.returns(in)
}

func (s *step) reset() { s.returns(s.Vals[0]) }

func (s *step) shift() {
	at := len(s.under) - 1
	for at >= 0 && s.prog.Nodes[s.under[at].Node].Op != api.TermReset {
		at--
	}
	if at < 0 {
		fail(api.MeanLoose)
	}
	kont := s.adds(api.MeanObj{Form: api.MeanKont, Frames: slices.Clone(s.under[at:])})
	s.keep = at + 1
	s.begins(0, kont)
}

func (s *step) pause() {
	s.shows(unit())
	s.returns(unit())
}
