package term

import "hearth/api"

// The ways to count a term.
const (
	byNodes = iota
	byDepth
	wayCount
)

// sizer counts a term that is formed.
type sizer struct {
	term api.Term
}

func (s sizer) nodes() int {
	n := 0
	for range partsOf(s.term, kidsOf) {
		n++
	}
	return n
}

func (s sizer) depth() int {
	most := 0
	for depth := range partsOf(s.term, kidsOf) {
		most = max(most, depth)
	}
	return most
}

// count counts a term in one of the ways.
func count(t api.Term, way int) (int, api.Errno) {
	if e := Check(t); e != api.OK {
		return 0, e
	}
	s := sizer{t}
	ways := [wayCount]func() int{byNodes: s.nodes, byDepth: s.depth}
	return ways[way](), api.OK
}

// Nodes returns how many nodes a term has.
func Nodes(t api.Term) (int, api.Errno) { return count(t, byNodes) }

// Depth returns the depth of a term.
func Depth(t api.Term) (int, api.Errno) { return count(t, byDepth) }

// At returns the part of a term to which a path leads.
func At(t api.Term, path []int) (api.Term, api.Errno) {
	if Check(t) != api.OK || !leads(t, path) {
		return api.Term{}, api.ErrArg
	}
	for _, kid := range path {
		t = t.Kids[kid]
	}
	return copyOf(t), api.OK
}

// Put returns a term with another part where a path leads.
func Put(t api.Term, path []int, part api.Term) (api.Term, api.Errno) {
	if Check(t) != api.OK || !leads(t, path) || Check(part) != api.OK {
		return api.Term{}, api.ErrArg
	}
	out := copyOf(t)
	place := &out
	for _, kid := range path {
		place = &place.Kids[kid]
	}
	*place = copyOf(part)
	return fitting(out)
}

// leads reports whether a path leads to a part of a term.
func leads(t api.Term, path []int) bool {
	for _, kid := range path {
		if kid < 0 || kid >= len(t.Kids) {
			return false
		}
		t = t.Kids[kid]
	}
	return true
}

// fitting returns a term that was put together of formed ones, or ErrLong: all that can be wrong with it is its size.
func fitting(t api.Term) (api.Term, api.Errno) {
	if Check(t) != api.OK {
		return api.Term{}, api.ErrLong
	}
	return t, api.OK
}

// copyOf returns a term in memory of its own.
func copyOf(t api.Term) api.Term {
	t.Kids = each(t.Kids, copyOf)
	t.Pats = each(t.Pats, copyOfPat)
	return t
}

func copyOfPat(p api.TermPat) api.TermPat {
	p.Parts = each(p.Parts, copyOfPat)
	return p
}
