package cover

import (
	"slices"

	"hearth/api"
)

// known is what is known of the value at a place: its type, and what tests on the way told.
type known struct {
	api.TermType
	head  head    // that of the Kid by which a test there was left, if one was
	not   []head  // those of tests there that were left by their last Kid
	parts []known // of its Parts, if more than their types is known of one
}

// bare reports whether no more than the type is known.
func (at known) bare() bool {
	return at.head == head{} && len(at.not) == 0 && len(at.parts) == 0
}

// left returns the heads that a place can have, in order, where its type has few.
func (k checked) left(at known) []head {
	if at.head != (head{}) {
		return []head{at.head}
	}
	return slices.DeleteFunc(k.headsOf(at.TermType), func(h head) bool { return slices.Contains(at.not, h) })
}

// headAt returns the head of a place, if it is known.
func (k checked) headAt(at known) (head, bool) {
	if left := k.left(at); len(left) == 1 {
		return left[0], true
	}
	return head{}, false
}

// partsAt returns what is known of the Parts of a place with a head.
func (k checked) partsAt(at known, h head) []known {
	if len(at.parts) > 0 {
		return slices.Clone(at.parts)
	}
	var out []known
	for _, arg := range k.argsOf(h) {
		out = append(out, known{TermType: arg})
	}
	return out
}

// place returns what is known of the place of a path, if there is one.
func (k checked) place(at known, path []int) (known, bool) {
	for _, i := range path {
		h, told := k.headAt(at)
		if !told {
			return known{}, false
		}
		parts := k.partsAt(at, h)
		if i < 0 || i >= len(parts) {
			return known{}, false
		}
		at = parts[i]
	}
	return at, true
}

// behind returns what is known when a test of a place that there is was left by one of its Kids.
func (k checked) behind(at known, test api.CoverNode, kid int) known {
	return k.with(at, test.Path, func(place known) known {
		if kid < len(test.Heads) {
			place.head = headOf(test.Heads[kid])
			return place
		}
		place.not = slices.Clone(place.not)
		for _, h := range test.Heads {
			place.not = append(place.not, headOf(h))
		}
		return place
	})
}

// with returns what is known with another place. It shares what is not on the path, and changes nothing.
func (k checked) with(at known, path []int, change func(known) known) known {
	if len(path) == 0 {
		return change(at)
	}
	h, _ := k.headAt(at)
	at.parts = k.partsAt(at, h)
	at.parts[path[0]] = k.with(at.parts[path[0]], path[1:], change)
	return at
}
