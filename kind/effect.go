package kind

import "hearth/api"

// doer gathers what functions of a module can do.
type doer struct {
	api.TermModule
	entered map[string]bool         // functions
	ops     [api.TermPause + 1]bool // that stand in their bodies
}

// effectsOf returns what a function can do. (Just the Ops from TermCell on are on the list of the chapter.)
func effectsOf(m api.TermModule, fun string) []api.TermOp {
	d := doer{TermModule: m, entered: map[string]bool{}}
	d.enter(fun)
	var out []api.TermOp
	for op := api.TermCell; op <= api.TermPause; op++ {
		if d.ops[op] {
			out = append(out, op)
		}
	}
	return out
}

// enter looks at the body of a function, if there is one of the name.
func (d *doer) enter(fun string) {
	if d.entered[fun] {
		return
	}
	d.entered[fun] = true
	for _, f := range d.Funs {
		if f.Name == fun {
			d.look(f.Body)
		}
	}
}

func (d *doer) look(t api.Term) {
	d.ops[t.Op] = true
	if t.Op == api.TermName {
		d.enter(t.Text)
	}
	for i := range len(t.Kids) {
		d.look(t.Kids[i])
	}
}
