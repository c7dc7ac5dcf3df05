package term_test

import (
	"slices"
	"strconv"
	"strings"

	"hearth/api"
)

// Short ways to write terms, patterns and types.

func name(s string) api.Term { return api.Term{Op: api.TermName, Text: s} }

func num(n int) api.Term { return api.Term{Op: api.TermInt, N: n} }

func node(op api.TermOp, kids ...api.Term) api.Term { return api.Term{Op: op, Kids: kids} }

func bind(op api.TermOp, s string, kids ...api.Term) api.Term {
	return api.Term{Op: op, Text: s, Kids: kids}
}

func fun(s string, body api.Term) api.Term { return bind(api.TermFun, s, body) }

func let(s string, value, body api.Term) api.Term { return bind(api.TermLet, s, value, body) }

func shift(s string, body api.Term) api.Term { return bind(api.TermShift, s, body) }

func plus(a, b api.Term) api.Term { return node(api.TermAdd, a, b) }

func apply(a, b api.Term) api.Term { return node(api.TermApply, a, b) }

func pat(s string) api.TermPat { return api.TermPat{Form: api.PatName, Text: s} }

func con(s string, parts ...api.TermPat) api.TermPat {
	return api.TermPat{Form: api.PatCon, Text: s, Parts: parts}
}

// row is a pattern of a match with its body.
type row struct {
	pat  api.TermPat
	body api.Term
}

func match(t api.Term, rows ...row) api.Term {
	out := api.Term{Op: api.TermMatch, Kids: []api.Term{t}}
	for _, r := range rows {
		out.Pats = append(out.Pats, r.pat)
		out.Kids = append(out.Kids, r.body)
	}
	return out
}

func kind(s api.TermSort, parts ...api.TermType) api.TermType {
	return api.TermType{Sort: s, Parts: parts}
}

// wide returns a term of so many nodes, as flat as terms of two Kids are.
func wide(nodes int) api.Term {
	if nodes == 1 {
		return name("x")
	}
	if nodes%2 == 0 {
		return node(api.TermGet, wide(nodes-1))
	}
	half := (nodes - 1) / 2
	if half%2 == 0 {
		return plus(wide(half-1), wide(half+1))
	}
	return plus(wide(half), wide(half))
}

// deep returns a term of so much depth, with a term at its end.
func deep(depth int, end api.Term) api.Term {
	for range depth - 1 {
		end = node(api.TermGet, end)
	}
	return end
}

// show writes a term as a string: two terms are equal just if their strings are. (Nil and empty lists are the same.)
func show(t api.Term) string {
	out := "(" + strconv.Itoa(int(t.Op)) + " " + strconv.Itoa(t.N) + " " + strconv.Quote(t.Text)
	for _, p := range t.Pats {
		out += " " + showPat(p)
	}
	for _, k := range t.Kids {
		out += " " + show(k)
	}
	return out + ")"
}

func showPat(p api.TermPat) string {
	out := "[" + strconv.Itoa(int(p.Form)) + " " + strconv.Itoa(p.N) + " " + strconv.Quote(p.Text)
	for _, q := range p.Parts {
		out += " " + showPat(q)
	}
	return out + "]"
}

func equal(a, b api.Term) bool { return show(a) == show(b) }

func zero(t api.Term) bool { return equal(t, api.Term{}) }

// patNames returns the names of a pattern, as the tests have them.
func patNames(p api.TermPat) []string {
	if p.Form == api.PatName {
		return []string{p.Text}
	}
	var out []string
	for _, q := range p.Parts {
		out = append(out, patNames(q)...)
	}
	return out
}

// binds returns the names that a node binds in a Kid, as the tests have them.
func binds(t api.Term, kid int) []string {
	if t.Op == api.TermMatch && kid > 0 {
		return patNames(t.Pats[kid-1])
	}
	if t.Op == api.TermFun || t.Op == api.TermShift || t.Op == api.TermLet && kid == 1 {
		return []string{t.Text}
	}
	return nil
}

// nameless writes a term without its bound names: a name that is bound is how many binders stand between it and its own, a free one is what a function says.
// Two terms are the same up to bound names just if their strings, with free names as themselves, are equal.
func nameless(t api.Term, bound []string, free func(string) string) string {
	if t.Op == api.TermName {
		for i := range bound {
			if bound[len(bound)-1-i] == t.Text {
				return "#" + strconv.Itoa(i)
			}
		}
		return free(t.Text)
	}
	text := t.Text
	if t.Op != api.TermCon {
		text = ""
	}
	out := "(" + strconv.Itoa(int(t.Op)) + " " + strconv.Itoa(t.N) + " " + text
	for _, p := range t.Pats {
		out += " " + namelessPat(p)
	}
	for i, k := range t.Kids {
		out += " " + nameless(k, slices.Concat(bound, binds(t, i)), free)
	}
	return out + ")"
}

func namelessPat(p api.TermPat) string {
	out := "[" + strconv.Itoa(int(p.Form)) + " " + strconv.Itoa(p.N)
	if p.Form == api.PatCon {
		out += " " + p.Text
	}
	for _, q := range p.Parts {
		out += " " + namelessPat(q)
	}
	return out + "]"
}

func itself(s string) string { return s }

// paths returns the paths of all parts of a term, a part before its Kids.
func paths(t api.Term) [][]int {
	out := [][]int{nil}
	for i, k := range t.Kids {
		for _, p := range paths(k) {
			out = append(out, append([]int{i}, p...))
		}
	}
	return out
}

func part(t api.Term, path []int) api.Term {
	for _, i := range path {
		t = t.Kids[i]
	}
	return t
}

// clone returns a term in other memory, with room behind each list, which a bad copy would share.
func clone(t api.Term) api.Term {
	kids := make([]api.Term, 0, len(t.Kids)+2)
	for _, k := range t.Kids {
		kids = append(kids, clone(k))
	}
	pats := make([]api.TermPat, 0, len(t.Pats)+2)
	for _, p := range t.Pats {
		pats = append(pats, clonePat(p))
	}
	t.Kids, t.Pats = kids, pats
	return t
}

func clonePat(p api.TermPat) api.TermPat {
	parts := make([]api.TermPat, 0, len(p.Parts)+2)
	for _, q := range p.Parts {
		parts = append(parts, clonePat(q))
	}
	p.Parts = parts
	return p
}

// spoil overwrites all memory of a term, and the room behind its lists.
func spoil(t api.Term) {
	for i := range t.Kids {
		spoil(t.Kids[i])
	}
	for i := range t.Pats {
		spoilPat(t.Pats[i])
	}
	kids := t.Kids[:cap(t.Kids)]
	for i := range kids {
		kids[i] = api.Term{Op: 77, N: 77, Text: "spoilt"}
	}
	pats := t.Pats[:cap(t.Pats)]
	for i := range pats {
		pats[i] = api.TermPat{Form: 77, N: 77, Text: "spoilt"}
	}
}

func spoilPat(p api.TermPat) {
	for i := range p.Parts {
		spoilPat(p.Parts[i])
	}
	parts := p.Parts[:cap(p.Parts)]
	for i := range parts {
		parts[i] = api.TermPat{Form: 77, N: 77, Text: "spoilt"}
	}
}

// room returns what stands in the room behind the lists of a term, where a clone has zero values.
func room(t api.Term) string {
	out := ""
	for _, k := range t.Kids {
		out += room(k)
	}
	for _, k := range t.Kids[len(t.Kids):cap(t.Kids)] {
		out += show(k)
	}
	for _, p := range t.Pats[len(t.Pats):cap(t.Pats)] {
		out += showPat(p)
	}
	return out
}

// apart reports whether a result has memory of its own: with it spoilt, the arguments are as before, and with them spoilt a second result, too.
// It calls a function twice with clones of the arguments.
func apart(call func(args []api.Term) api.Term, args ...api.Term) bool {
	var first, second []api.Term
	for _, a := range args {
		first = append(first, clone(a))
		second = append(second, clone(a))
	}
	spoil(call(first))
	for i, a := range first {
		if !equal(a, args[i]) || room(a) != room(clone(args[i])) {
			return false
		}
	}
	out := call(second)
	before := show(out)
	for _, a := range second {
		spoil(a)
	}
	return show(out) == before
}

// loose reports whether no two lists of a term share memory: one that is changed changes one place.
func loose(t api.Term) bool {
	for _, p := range paths(t) {
		at := part(t, p)
		if len(at.Kids) > 0 {
			before := at.Kids[0]
			at.Kids[0] = api.Term{Op: 77}
			once := strings.Count(show(t), "(77 ") == 1
			at.Kids[0] = before
			if !once {
				return false
			}
		}
		if len(at.Pats) > 0 {
			before := at.Pats[0]
			at.Pats[0] = api.TermPat{Form: 77}
			once := strings.Count(show(t), "[77 ") == 1
			at.Pats[0] = before
			if !once {
				return false
			}
		}
	}
	return true
}

// dice throws numbers that are the same in each run.
type dice uint64

func (d *dice) throw(n int) int {
	*d = *d*6364136223846793005 + 1442695040888963407
	return int(uint64(*d)>>33) % n
}

// term returns a formed term of some depth, at most, whose names are few, so that they often meet.
func (d *dice) term(depth int) api.Term {
	names := []string{"a", "b", "c", "x"}
	s := names[d.throw(len(names))]
	if depth == 1 || d.throw(8) == 0 {
		if d.throw(3) == 0 {
			return num(d.throw(2))
		}
		return name(s)
	}
	switch d.throw(7) {
	case 0:
		return fun(s, d.term(depth-1))
	case 1:
		return shift(s, d.term(depth-1))
	case 2:
		return let(s, d.term(depth-1), d.term(depth-1))
	case 3:
		return plus(d.term(depth-1), d.term(depth-1))
	case 4:
		return bind(api.TermCon, "Con", d.term(depth-1))
	case 5:
		return match(d.term(depth-1), row{d.pat(names), d.term(depth - 1)}, row{d.pat(names), d.term(depth - 1)})
	}
	return node(api.TermGet, d.term(depth-1))
}

// pat returns a formed pattern with some of the names.
func (d *dice) pat(names []string) api.TermPat {
	i := d.throw(len(names))
	j := (i + 1 + d.throw(len(names)-1)) % len(names)
	switch d.throw(5) {
	case 0:
		return api.TermPat{Form: api.PatInt, N: d.throw(2)}
	case 1:
		return con("Two", pat(names[i]), pat(names[j]))
	case 2:
		return con("One", con("Two", api.TermPat{Form: api.PatAny}, pat(names[j])))
	}
	return pat(names[i])
}

// formed returns a formed term of at most some nodes and some depth.
func (d *dice) formed(nodes, depth int) api.Term {
	for {
		if t := d.term(depth); len(paths(t)) <= nodes {
			return t
		}
	}
}
