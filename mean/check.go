package mean

import "hearth/api"

func within(n, least, most int) bool { return n >= least && n <= most }

func withinTerms(n int) bool { return within(n, -api.TermMost, api.TermMost) }

// all reports whether each of some things is as asked.
func all[T any](list []T, is func(T) bool) bool {
	for _, x := range list {
		if !is(x) {
			return false
		}
	}
	return true
}

// defined reports whether the world is as defined for the program, which is formed.
func (r *runner) defined() bool {
	return len(r.Objs) <= api.MeanObjs && all(r.Objs, r.objFits) && r.tasksFit() &&
		len(r.Outs) <= api.MeanOuts && all(r.Outs, outFits) &&
		len(r.Ins) <= api.MeanIns && all(r.Ins, withinTerms) && within(r.Used, 0, api.TermMost)
}

func outFits(o api.MeanOut) bool { return within(o.Port, 0, api.TermPorts-1) && withinTerms(o.N) }

// tasksFit reports whether Tasks are the numbers of all tasks, each once.
func (r *runner) tasksFit() bool {
	var left [api.MeanObjs]bool
	count := 0
	for i := range len(r.Objs) {
		if r.Objs[i].Form == api.MeanTask {
			left[i] = true
			count++
		}
	}
	return len(r.Tasks) == count && all(r.Tasks, func(t int) bool {
		if !within(t, 0, len(r.Objs)-1) || !left[t] {
			return false
		}
		left[t] = false
		return true
	})
}

func (r *runner) valFits(v api.MeanVal) bool {
	switch v.Kind {
	case api.MeanInt:
		return withinTerms(v.N)
	case api.MeanBool:
		return within(v.N, 0, 1)
	case api.MeanUnit:
		return v.N == 0
	case api.MeanCode:
		return within(v.N, 0, len(r.prog.Funs)-1)
	case api.MeanRef:
		return within(v.N, 0, len(r.Objs)-1)
	}
	return false
}

func (r *runner) frameFits(f api.MeanFrame) bool {
	return within(f.Node, 0, len(r.prog.Nodes)-1) && len(f.Env) <= api.MeanVals && all(f.Env, r.valFits) &&
		len(f.Vals) <= asks(r.prog.Nodes[f.Node]) && all(f.Vals, r.valFits)
}

func (r *runner) isOpen(f api.MeanFrame) bool { return open(r.prog, f) }

func (r *runner) objFits(o api.MeanObj) bool {
	if len(o.Frames) > api.MeanFrames || !all(o.Frames, r.frameFits) || !all(o.Vals, r.valFits) {
		return false
	}
	vals, frames := len(o.Vals), len(o.Frames)
	switch o.Form {
	case api.MeanData:
		return within(o.N, 0, len(r.prog.Cons)-1) && vals == r.prog.Cons[o.N].Args && frames == 0
	case api.MeanFun:
		return within(o.N, 0, len(r.prog.Nodes)-1) && r.prog.Nodes[o.N].Op == api.TermFun && vals <= api.MeanVals && frames == 0
	case api.MeanCell:
		return o.N == 0 && vals == 1 && frames == 0
	case api.MeanChan:
		return o.N == 0 && vals <= api.MeanQueue && frames == 0
	case api.MeanKont:
		return o.N == 0 && vals == 0 && frames > 0 && r.prog.Nodes[o.Frames[0].Node].Op == api.TermReset && all(o.Frames, r.isOpen)
	case api.MeanTask:
		return r.taskFits(o)
	}
	return false
}

func (r *runner) taskFits(o api.MeanObj) bool {
	switch o.N {
	case api.MeanGoes:
		opened := len(o.Frames) // those that must be open: with a value that comes back, the last one, too
		if len(o.Vals) == 0 {
			opened--
		}
		return len(o.Vals) <= 1 && opened >= 0 && all(o.Frames[:opened], r.isOpen)
	case api.MeanDone:
		return len(o.Vals) == 1 && len(o.Frames) == 0
	case api.MeanStuck, api.MeanLoose, api.MeanFull:
		return len(o.Vals) == 0 && len(o.Frames) == 0
	}
	return false
}
