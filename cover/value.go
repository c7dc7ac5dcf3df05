package cover

import (
	"cmp"

	"hearth/api"
	"hearth/term"
)

// bounded reports whether something has at most so many nodes, at most CoverDepth depth, and only nodes that fit.
// It ends at the first node too many, as what is given may have itself as a part.
func bounded[T any](t T, most int, fits func(T) bool, parts func(T) []T) bool {
	nodes := 0
	var look func(T, int) bool
	look = func(t T, depth int) bool {
		nodes++
		if nodes > most || depth > api.CoverDepth || !fits(t) {
			return false
		}
		for _, part := range parts(t) {
			if !look(part, depth+1) {
				return false
			}
		}
		return true
	}
	return look(t, 1)
}

// formed reports whether a value is formed.
func formed(v api.CoverVal) bool { return bounded(v, api.CoverVals, valueFits, partsOf) }

func partsOf(v api.CoverVal) []api.CoverVal { return v.Parts }

// valueFits looks at a value without its Parts.
func valueFits(v api.CoverVal) bool {
	number, text, most := v.N == 0, v.Text == "", 0
	switch v.Form {
	case api.CoverInt:
		number = v.N >= -api.TermMost && v.N <= api.TermMost
	case api.CoverBool:
		number = v.N == 0 || v.N == 1
	case api.CoverUnit, api.CoverElse:
	case api.CoverCon:
		text, most = term.Great(v.Text), api.TermArgs
	default:
		return false
	}
	return number && text && len(v.Parts) <= most
}

// copyOf returns a value in memory of its own.
func copyOf(v api.CoverVal) api.CoverVal {
	parts := make([]api.CoverVal, len(v.Parts))
	for i, part := range v.Parts {
		parts[i] = copyOf(part)
	}
	v.Parts = parts
	return v
}

// head is the head of a value, so that heads can be compared.
type head struct {
	form api.CoverForm
	n    int
	text string
}

func headOf(v api.CoverVal) head { return head{v.Form, v.N, v.Text} }

func (h head) val() api.CoverVal { return api.CoverVal{Form: h.form, N: h.n, Text: h.text} }

// asks returns the head that a pattern asks for, if it does.
func asks(p api.TermPat) (head, bool) {
	switch p.Form {
	case api.PatInt:
		return head{api.CoverInt, p.N, ""}, true
	case api.PatBool:
		return head{api.CoverBool, p.N, ""}, true
	case api.PatUnit:
		return head{form: api.CoverUnit}, true
	case api.PatCon:
		return head{api.CoverCon, 0, p.Text}, true
	}
	return head{}, false
}

// headless reports whether a type has values without heads.
func headless(t api.TermType) bool {
	switch t.Sort {
	case api.TypeFun, api.TypeCell, api.TypeChan, api.TypeTask:
		return true
	}
	return false
}

// hasHead reports whether a head is one of those of a type.
func (k checked) hasHead(t api.TermType, h head) bool {
	if !valueFits(h.val()) {
		return false
	}
	switch t.Sort {
	case api.TypeInt:
		return h.form == api.CoverInt
	case api.TypeBool:
		return h.form == api.CoverBool
	case api.TypeUnit:
		return h.form == api.CoverUnit
	case api.TypeData:
		con, entered := k.cons[h.text]
		return h.form == api.CoverCon && entered && con.of == t.Text
	}
	return false
}

// headsOf returns the heads of a type, in order, where there are few: none of int.
func (k checked) headsOf(t api.TermType) []head {
	switch t.Sort {
	case api.TypeBool:
		return []head{{form: api.CoverBool}, {form: api.CoverBool, n: 1}}
	case api.TypeUnit:
		return []head{{form: api.CoverUnit}}
	case api.TypeData:
		var out []head
		for _, con := range k.consOf(t) {
			out = append(out, head{form: api.CoverCon, text: con.Name})
		}
		return out
	}
	return nil
}

// argsOf returns the types of the Parts of a value with a head.
func (k checked) argsOf(h head) []api.TermType {
	if h.form != api.CoverCon {
		return nil
	}
	return k.cons[h.text].Args
}

// compare compares two values with as many nodes, of one type: it is negative if the first one comes first.
func (k checked) compare(a, b api.CoverVal) int {
	if order := k.compareHeads(headOf(a), headOf(b)); order != 0 {
		return order
	}
	for i, part := range a.Parts {
		if order := k.compare(part, b.Parts[i]); order != 0 {
			return order
		}
	}
	return 0
}

func (k checked) compareHeads(a, b head) int {
	switch a.form {
	case api.CoverInt:
		return cmp.Or(cmp.Compare(max(a.n, -a.n), max(b.n, -b.n)), cmp.Compare(b.n, a.n))
	case api.CoverCon:
		return cmp.Compare(k.cons[a.text].order, k.cons[b.text].order)
	}
	return cmp.Compare(a.n, b.n)
}
