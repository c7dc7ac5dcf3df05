package bind

import (
	"iter"

	"hearth/api"
)

// shape is what a node may be; its Op tells which one.
type shape interface {
	// adds returns how many values the environment of a Kid has more than that of its node.
	adds(n api.BindNode, kid int) int
}

type (
	plain    struct{ kids int } // all that there is to it are its Kids
	binding  struct{ plain }    // a value is bound in the last one of them
	naming   struct{ plain }    // a TermName: N is a place, or tells a function
	making   struct{ plain }    // a TermCon: N is a constructor, which tells how many Kids there are
	matching struct{ plain }    // a TermMatch: its Pats tell how many Kids there are

	// numbered has an N as in terms.
	numbered struct {
		plain
		least, most int
	}
)

func (plain) adds(api.BindNode, int) int { return 0 }

func (s binding) adds(_ api.BindNode, kid int) int {
	if kid == s.kids-1 {
		return 1
	}
	return 0
}

func (matching) adds(n api.BindNode, kid int) int {
	if kid == 0 {
		return 0
	}
	names := 0
	for part := range parts(n.Pats[kid-1], partsOf) {
		if part.Form == api.PatName {
			names++
		}
	}
	return names
}

// shapeOf returns what a node with an Op may be; nothing, if there is no such Op.
func shapeOf(op api.TermOp) shape {
	switch op {
	case api.TermInt:
		return numbered{plain{0}, -api.TermMost, api.TermMost}
	case api.TermBool:
		return numbered{plain{0}, 0, 1}
	case api.TermOut:
		return numbered{plain{1}, 0, api.TermPorts - 1}
	case api.TermName:
		return naming{}
	case api.TermFun, api.TermShift:
		return binding{plain{1}}
	case api.TermLet:
		return binding{plain{2}}
	case api.TermCon:
		return making{}
	case api.TermMatch:
		return matching{}
	case api.TermUnit, api.TermChan, api.TermIn, api.TermPause:
		return plain{0}
	case api.TermCell, api.TermGet, api.TermSpawn, api.TermJoin, api.TermTake, api.TermReset:
		return plain{1}
	case api.TermApply, api.TermAdd, api.TermSub, api.TermMul, api.TermLess, api.TermSame, api.TermPut, api.TermSend:
		return plain{2}
	case api.TermIf:
		return plain{3}
	}
	return nil
}

// parts goes through a tree: each part, with its depth (1 for the tree itself), before those within it, and all of one of these before the next one.
// Who asks can leave early: a pattern that is not formed may have no end.
func parts[T any](tree T, inner func(T) []T) iter.Seq2[T, int] {
	return func(yield func(T, int) bool) {
		var walk func(part T, depth int) bool
		walk = func(part T, depth int) bool {
			if !yield(part, depth) {
				return false
			}
			for _, p := range inner(part) {
				if !walk(p, depth+1) {
					return false
				}
			}
			return true
		}
		walk(tree, 1)
	}
}

func partsOf(p api.TermPat) []api.TermPat { return p.Parts }

// nodesOf goes through the nodes of a function, in order, with their depths.
func nodesOf(p api.BindProg, fun int) iter.Seq2[int, int] {
	return parts(p.Funs[fun], func(node int) []int { return p.Nodes[node].Kids })
}

// sizes returns how many values the environment of each node has. (A node has a lesser number than its Kids.)
func sizes(p api.BindProg) []int {
	out := make([]int, len(p.Nodes))
	for _, body := range p.Funs {
		out[body] = 1
	}
	for i, n := range p.Nodes {
		s := shapeOf(n.Op)
		for k, kid := range n.Kids {
			out[kid] = out[i] + s.adds(n, k)
		}
	}
	return out
}

// closed reports whether each place is within its environment.
func closed(p api.BindProg) bool {
	for i, size := range sizes(p) {
		if n := p.Nodes[i]; n.Op == api.TermName && n.N >= size {
			return false
		}
	}
	return true
}
