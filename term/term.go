// Package term is layer 1, the language as data: which terms, patterns, types and modules are formed, their parts and sizes, the names in them, substitution, and sameness up to bound names.
package term

import (
	"iter"

	"hearth/api"
)

// partsOf goes through a tree, each part before those within it, with its depth (1 for the tree itself).
// Who asks can leave early: a value whose slices lie within themselves is a tree without an end.
func partsOf[T any](tree T, within func(T) []T) iter.Seq2[int, T] {
	return func(yield func(int, T) bool) {
		var walk func(depth int, part T) bool
		walk = func(depth int, part T) bool {
			if !yield(depth, part) {
				return false
			}
			for _, inner := range within(part) {
				if !walk(depth+1, inner) {
					return false
				}
			}
			return true
		}
		walk(1, tree)
	}
}

func kidsOf(t api.Term) []api.Term { return t.Kids }

func partsOfPat(p api.TermPat) []api.TermPat { return p.Parts }

func partsOfType(t api.TermType) []api.TermType { return t.Parts }

// all reports whether each of some things is as asked.
func all[T any](list []T, is func(T) bool) bool {
	for _, x := range list {
		if !is(x) {
			return false
		}
	}
	return true
}

// each returns what becomes of each of some things; of none it is nil, so that leaves are without lists.
func each[T any](list []T, become func(T) T) []T {
	var out []T
	for _, x := range list {
		out = append(out, become(x))
	}
	return out
}
