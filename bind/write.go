package bind

import (
	"slices"

	"hearth/api"
	"hearth/term"
)

const dataNames = "ABCD"

// short reports whether the term of a function is formed: it is if there are not too many nodes, and not too deep ones.
func short(p api.BindProg, fun int) bool {
	count := 0
	for _, depth := range nodesOf(p, fun) {
		count++
		if count > api.TermNodes || depth > api.TermDepth {
			return false
		}
	}
	return true
}

// writer writes a program with names.
type writer struct {
	api.BindProg
	sizes []int    // of the environments of nodes
	names []string // all that were asked for, and those before them
}

func newWriter(p api.BindProg) *writer {
	return &writer{BindProg: p, sizes: sizes(p)}
}

// name returns the name with a number, in the order of first names.
func (w *writer) name(n int) string {
	for len(w.names) <= n {
		w.names = append(w.names, term.Fresh(w.names))
	}
	return w.names[n]
}

func (w *writer) nameOfFun(fun int) string {
	if fun == w.Main {
		return mainName
	}
	return w.name(fun)
}

func (w *writer) nameOfPlace(place int) string { return w.name(len(w.Funs) + place) }

func (w *writer) body(fun int) api.Term { return w.term(w.Funs[fun]) }

func (w *writer) term(node int) api.Term {
	n := w.Nodes[node]
	out := api.Term{Op: n.Op}
	switch shapeOf(n.Op).(type) {
	case numbered:
		out.N = n.N
	case naming:
		out.Text = w.named(n.N)
	case binding:
		out.Text = w.nameOfPlace(w.sizes[node])
	case making:
		out.Text = w.Cons[n.N].Name
	case matching:
		for _, p := range n.Pats {
			place := w.sizes[node]
			out.Pats = append(out.Pats, w.pat(p, &place))
		}
	}
	for _, kid := range n.Kids {
		out.Kids = append(out.Kids, w.term(kid))
	}
	return out
}

// named returns the name that stands for the N of a TermName.
func (w *writer) named(n int) string {
	if n < 0 {
		return w.nameOfFun(-1 - n)
	}
	return w.nameOfPlace(n)
}

// pat returns a pattern with names, the first one being that of a place, which becomes the one behind the last one.
func (w *writer) pat(p api.TermPat, place *int) api.TermPat {
	out := api.TermPat{Form: p.Form, N: p.N}
	switch p.Form {
	case api.PatName:
		out.Text = w.nameOfPlace(*place)
		*place++
	case api.PatCon:
		out.Text, out.N = w.Cons[p.N].Name, 0
	}
	for _, part := range p.Parts {
		out.Parts = append(out.Parts, w.pat(part, place))
	}
	return out
}

func (w *writer) module() api.TermModule {
	out := api.TermModule{Name: "m"}
	for cons := range slices.Chunk(w.Cons, api.TermCons) {
		at := len(out.Datas)
		out.Datas = append(out.Datas, dataOf(dataNames[at:at+1], cons))
	}
	for fun := range w.Funs {
		out.Funs = append(out.Funs, api.TermFunDef{Name: w.nameOfFun(fun), Param: w.nameOfPlace(0), From: integer(), To: integer(), Body: w.body(fun)})
	}
	return out
}

func dataOf(name string, cons []api.BindCon) api.TermData {
	out := api.TermData{Name: name}
	for _, c := range cons {
		def := api.TermConDef{Name: c.Name}
		for range c.Args {
			def.Args = append(def.Args, integer())
		}
		out.Cons = append(out.Cons, def)
	}
	return out
}

func integer() api.TermType { return api.TermType{Sort: api.TypeInt} }
