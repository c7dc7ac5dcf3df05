package cover

import (
	"iter"
	"slices"

	"hearth/api"
)

// places goes through the nodes of a pattern that is formed, with the paths of their places: from the outside, and Parts in order.
func places(p api.TermPat) iter.Seq2[[]int, api.TermPat] {
	return func(yield func([]int, api.TermPat) bool) {
		var look func([]int, api.TermPat) bool
		look = func(path []int, p api.TermPat) bool {
			if !yield(path, p) {
				return false
			}
			for i, part := range p.Parts {
				if !look(append(slices.Clip(path), i), part) {
					return false
				}
			}
			return true
		}
		look(nil, p)
	}
}

// placeIn returns the part of a value at a place that it has.
func placeIn(v api.CoverVal, path []int) api.CoverVal {
	for _, i := range path {
		v = v.Parts[i]
	}
	return v
}

// firstRow returns the first row that matches a value of the type of a case, or -1.
func (k checked) firstRow(v api.CoverVal) int {
	return slices.IndexFunc(k.Rows, func(row api.TermPat) bool { return matches(row, v) })
}

// matches reports whether a pattern matches a value of its type. (The places of Parts are there, as their heads were looked at before.)
func matches(p api.TermPat, v api.CoverVal) bool {
	for path, part := range places(p) {
		if h, asked := asks(part); asked && h != headOf(placeIn(v, path)) {
			return false
		}
	}
	return true
}

// meanings returns what the names of a pattern mean in a value that it matches.
func meanings(p api.TermPat, v api.CoverVal) []api.CoverBind {
	var out []api.CoverBind
	for path, part := range places(p) {
		if part.Form == api.PatName {
			out = append(out, api.CoverBind{Name: part.Text, Val: copyOf(placeIn(v, path))})
		}
	}
	return out
}
