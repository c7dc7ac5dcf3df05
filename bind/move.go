package bind

import (
	"slices"

	"hearth/api"
)

// shift moves numbers by another one.
type shift int

func (s shift) by(n int) int { return n + int(s) }

// table has a new number for each one.
type table []int

func (t table) at(n int) int { return t[n] }

// moves tell what the numbers of functions and of constructors become.
type moves struct {
	fun func(int) int
	con func(int) int
}

// lay puts a function behind those of a program: its nodes, in order, with their numbers moved.
func (m moves) lay(out *api.BindProg, p api.BindProg, fun int) {
	first := len(out.Nodes)
	var old []int
	places := make(table, len(p.Nodes))
	for node := range nodesOf(p, fun) {
		places[node] = first + len(old)
		old = append(old, node)
	}
	for _, node := range old {
		out.Nodes = append(out.Nodes, m.node(p.Nodes[node], places.at))
	}
	out.Funs = append(out.Funs, first)
}

// layAll puts all functions of a program behind those of another one.
func (m moves) layAll(out *api.BindProg, p api.BindProg) {
	for fun := range p.Funs {
		m.lay(out, p, fun)
	}
}

// node returns a node with its numbers moved.
func (m moves) node(n api.BindNode, place func(int) int) api.BindNode {
	out := api.BindNode{Op: n.Op, N: n.N}
	switch shapeOf(n.Op).(type) {
	case naming:
		if n.N < 0 {
			out.N = -1 - m.fun(-1-n.N)
		}
	case making:
		out.N = m.con(n.N)
	case matching:
		out.Pats = m.pats(n.Pats)
	}
	for _, kid := range n.Kids {
		out.Kids = append(out.Kids, place(kid))
	}
	return out
}

func (m moves) pats(pats []api.TermPat) []api.TermPat {
	var out []api.TermPat
	for _, p := range pats {
		moved := api.TermPat{Form: p.Form, N: p.N, Parts: m.pats(p.Parts)}
		if p.Form == api.PatCon {
			moved.N = m.con(p.N)
		}
		out = append(out, moved)
	}
	return out
}

// ordered returns a program with its nodes in order.
func ordered(p api.BindProg) api.BindProg {
	out := api.BindProg{Main: p.Main, Cons: slices.Clone(p.Cons)}
	moves{shift(0).by, shift(0).by}.layAll(&out, p)
	return out
}

// merged returns the constructors of two programs, the numbers there of those of the second one, and whether those with the same name agree.
func merged(first, second []api.BindCon) ([]api.BindCon, table, bool) {
	numbers := map[string]int{}
	for i, c := range first {
		numbers[c.Name] = i
	}
	out := slices.Clone(first)
	var moved table
	for _, c := range second {
		at, has := numbers[c.Name]
		if !has {
			at = len(out)
			out = append(out, c)
		}
		if out[at].Args != c.Args {
			return nil, nil, false
		}
		moved = append(moved, at)
	}
	return out, moved, true
}

// trimmed returns a program with the functions that it reaches alone.
func trimmed(p api.BindProg) api.BindProg {
	funs := make(table, len(p.Funs))
	var left []int
	for fun, reached := range reach(p) {
		if reached {
			funs[fun] = len(left)
			left = append(left, fun)
		}
	}
	out := api.BindProg{Main: funs[p.Main], Cons: slices.Clone(p.Cons)}
	for _, fun := range left {
		moves{funs.at, shift(0).by}.lay(&out, p, fun)
	}
	return out
}

// reach returns which functions a program reaches.
func reach(p api.BindProg) []bool {
	reached := make([]bool, len(p.Funs))
	var visit func(fun int)
	visit = func(fun int) {
		if reached[fun] {
			return
		}
		reached[fun] = true
		for node := range nodesOf(p, fun) {
			if n := p.Nodes[node]; n.Op == api.TermName && n.N < 0 {
				visit(-1 - n.N)
			}
		}
	}
	visit(p.Main)
	return reached
}
