package cover

import (
	"slices"

	"hearth/api"
)

func isLeaf(t api.CoverNode) bool {
	return len(t.Path) == 0 && len(t.Heads) == 0 && len(t.Kids) == 0
}

// shaped reports whether a tree has the size of one, and consists of leaves and tests, whatever the case.
func shaped(t api.CoverNode) bool {
	return bounded(t, api.CoverNodes, nodeFits, func(t api.CoverNode) []api.CoverNode { return t.Kids })
}

// nodeFits looks at a node without its Kids. The Kids are counted first, as lists may be of any length.
func nodeFits(t api.CoverNode) bool {
	if isLeaf(t) {
		return true
	}
	return len(t.Kids) <= api.CoverNodes && len(t.Kids) == len(t.Heads)+1 && len(t.Heads) >= 1 &&
		len(t.Path) <= api.CoverDepth && t.Row == 0 &&
		!slices.ContainsFunc(t.Heads, func(h api.CoverVal) bool { return len(h.Parts) > 0 })
}

// treeFits reports whether a tree that is shaped is formed for a case, where something is known.
func (k checked) treeFits(at known, t api.CoverNode) bool {
	if isLeaf(t) {
		return t.Row == -1 || k.hasRow(t.Row)
	}
	place, there := k.place(at, t.Path)
	if !there || !k.headsFit(place, t.Heads) {
		return false
	}
	for i, kid := range t.Kids {
		if !k.treeFits(k.behind(at, t, i), kid) {
			return false
		}
	}
	return true
}

// headsFit reports whether a test of a place can have some heads.
func (k checked) headsFit(place known, heads []api.CoverVal) bool {
	if _, told := k.headAt(place); told {
		return false
	}
	met := map[head]bool{}
	for _, h := range place.not {
		met[h] = true
	}
	for _, v := range heads {
		h := headOf(v)
		if met[h] || !k.hasHead(place.TermType, h) {
			return false
		}
		met[h] = true
	}
	return true
}

// lead returns the row of the leaf to which a value is led, and how many tests it passes.
func lead(t api.CoverNode, v api.CoverVal) (int, int) {
	tests := 0
	for !isLeaf(t) {
		at := headOf(placeIn(v, t.Path))
		kid := slices.IndexFunc(t.Heads, func(h api.CoverVal) bool { return headOf(h) == at })
		if kid < 0 {
			kid = len(t.Heads)
		}
		t = t.Kids[kid]
		tests++
	}
	return t.Row, tests
}

// ledAstray returns the first value that a tree does not lead to its first row. (Each value gets to one leaf alone.)
func (s searcher) ledAstray(at known, t api.CoverNode) found {
	if isLeaf(t) {
		return s.all(at).first(s.checked, astray{t.Row})
	}
	var out found
	for i, kid := range t.Kids {
		out = s.earlier(out, s.ledAstray(s.behind(at, t, i), kid))
	}
	return out
}

// spot is a node of a row, with the path of its place.
type spot struct {
	path []int
	pat  api.TermPat
}

// grower makes the tree by rows.
type grower struct {
	checked
	rows  [][]spot
	nodes int // of the tree, so far
}

// byRows returns the tree by rows, or that it has too many nodes.
// (It is never too deep: no node of a row is tested twice on a way, and all rows have few nodes.)
func byRows(k checked) (api.CoverNode, bool) {
	g := &grower{checked: k}
	for _, row := range k.Rows {
		var spots []spot
		for path, p := range places(row) {
			spots = append(spots, spot{path, p})
		}
		g.rows = append(g.rows, spots)
	}
	t := g.grow(known{TermType: k.Type}, 0, 0)
	if g.nodes > api.CoverNodes {
		return api.CoverNode{}, false
	}
	return t, true
}

// grow returns the tree that goes on with a node of a row, where something is known.
func (g *grower) grow(at known, row, next int) api.CoverNode {
	g.nodes++
	if g.nodes > api.CoverNodes {
		return api.CoverNode{}
	}
rows:
	for ; row < len(g.rows); row, next = row+1, 0 {
		for ; next < len(g.rows[row]); next++ {
			node := g.rows[row][next]
			asked, is := asks(node.pat)
			if !is {
				continue
			}
			place, _ := g.place(at, node.path)
			h, told := g.headAt(place)
			switch {
			case told && h != asked, !told && slices.Contains(place.not, asked):
				continue rows
			case !told:
				return g.test(at, node.path, asked, row, next)
			}
		}
		return api.CoverNode{Row: row}
	}
	return api.CoverNode{Row: -1}
}

// test returns a test for a node of a row: its first Kid goes on behind the node, its last one with the next row.
func (g *grower) test(at known, path []int, asked head, row, next int) api.CoverNode {
	t := api.CoverNode{Path: slices.Clone(path), Heads: []api.CoverVal{asked.val()}}
	first := g.grow(g.behind(at, t, 0), row, next+1)
	last := g.grow(g.behind(at, t, 1), row+1, 0)
	t.Kids = []api.CoverNode{first, last}
	return t
}
