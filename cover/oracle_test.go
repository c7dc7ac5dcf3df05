package cover_test

import (
	"slices"

	"hearth/api"
)

// An oracle answers what is asked of a case by going through its values one by one.
type oracle struct {
	api.CoverCase
	listed []api.CoverVal // all values of the Type with at most so many nodes, and few integers, in order
	most   int
}

// newOracle lists values up to a number of nodes for which there are not too many.
func newOracle(c api.CoverCase, limit int) *oracle {
	o := &oracle{CoverCase: c}
	counts, lists := map[string]int{}, map[string][]api.CoverVal{}
	for n := 1; n <= 16 && len(o.listed)+o.count(c.Type, n, counts) <= limit; n++ {
		more := slices.Clone(o.ofNodes(c.Type, n, lists))
		slices.SortFunc(more, func(a, b api.CoverVal) int { return slices.Compare(o.ranks(a), o.ranks(b)) })
		o.listed = append(o.listed, more...)
		o.most = n
	}
	return o
}

// ranks are the ranks of a value's nodes among those that can stand there, from the outside.
func (o *oracle) ranks(v api.CoverVal) []int {
	var out []int
	switch {
	case v.Form == api.CoverInt && v.N > 0:
		out = []int{2*v.N - 1}
	case v.Form == api.CoverInt:
		out = []int{-2 * v.N}
	case v.Form == api.CoverCon:
		for _, d := range o.Datas {
			if i := slices.IndexFunc(d.Cons, func(c api.TermConDef) bool { return c.Name == v.Text }); i >= 0 {
				out = []int{i}
			}
		}
	default:
		out = []int{v.N}
	}
	for _, p := range v.Parts {
		out = append(out, o.ranks(p)...)
	}
	return out
}

// flat returns the values without Parts of a type, that is none of data types.
func flat(k api.TermType) []api.CoverVal {
	switch k.Sort {
	case api.TypeInt:
		var out []api.CoverVal
		for _, n := range append(slices.Clone(smallInts), -2) {
			out = append(out, intVal(n))
		}
		return out
	case api.TypeBool:
		return []api.CoverVal{{Form: api.CoverBool}, {Form: api.CoverBool, N: 1}}
	case api.TypeUnit:
		return []api.CoverVal{{Form: api.CoverUnit}}
	case api.TypeData:
		return nil
	}
	return []api.CoverVal{{Form: api.CoverElse}}
}

// count returns how many values of a type have so many nodes.
func (o *oracle) count(k api.TermType, n int, met map[string]int) int {
	key := show(k) + show(n)
	if _, known := met[key]; known {
		return met[key]
	}
	out := 0
	if n == 1 {
		out = len(flat(k))
	}
	for _, con := range consOf(o.Datas, k) {
		lists := []int{1} // how many lists of Parts have so many nodes
		for _, arg := range con.Args {
			next := make([]int, n)
			for a, c := range lists {
				for b := 1; a+b < n; b++ {
					next[a+b] = min(next[a+b]+c*o.count(arg, b, met), 1000000)
				}
			}
			lists = next
		}
		if n-1 < len(lists) {
			out += lists[n-1]
		}
	}
	met[key] = min(out, 1000000)
	return met[key]
}

// ofNodes returns all values of a type with so many nodes.
func (o *oracle) ofNodes(k api.TermType, n int, met map[string][]api.CoverVal) []api.CoverVal {
	key := show(k) + show(n)
	if out, known := met[key]; known {
		return out
	}
	var out []api.CoverVal
	if n == 1 {
		out = flat(k)
	}
	for _, con := range consOf(o.Datas, k) {
		for _, parts := range o.lists(con.Args, n-1, met) {
			out = append(out, conVal(con.Name, parts...))
		}
	}
	met[key] = out
	return out
}

// lists returns all lists of values of some types with so many nodes together.
func (o *oracle) lists(kinds []api.TermType, n int, met map[string][]api.CoverVal) [][]api.CoverVal {
	if len(kinds) == 0 {
		if n == 0 {
			return [][]api.CoverVal{nil}
		}
		return nil
	}
	var out [][]api.CoverVal
	for first := 1; first <= n; first++ {
		for _, v := range o.ofNodes(kinds[0], first, met) {
			for _, rest := range o.lists(kinds[1:], n-first, met) {
				out = append(out, append([]api.CoverVal{v}, rest...))
			}
		}
	}
	return out
}

// fits reports whether a pattern matches a value.
func fits(p api.TermPat, v api.CoverVal) bool {
	switch p.Form {
	case api.PatInt, api.PatBool:
		return p.N == v.N
	case api.PatCon:
		if p.Text != v.Text {
			return false
		}
		for i, q := range p.Parts {
			if !fits(q, v.Parts[i]) {
				return false
			}
		}
	}
	return true
}

// meant returns what the names of a pattern mean in a value.
func meant(p api.TermPat, v api.CoverVal) []api.CoverBind {
	if p.Form == api.PatName {
		return []api.CoverBind{{Name: p.Text, Val: v}}
	}
	var out []api.CoverBind
	for i, q := range p.Parts {
		out = append(out, meant(q, v.Parts[i])...)
	}
	return out
}

func (o *oracle) first(v api.CoverVal) int {
	return slices.IndexFunc(o.Rows, func(p api.TermPat) bool { return fits(p, v) })
}

// valueIs reports whether a value is of a type.
func (o *oracle) valueIs(v api.CoverVal, k api.TermType) bool {
	form := map[api.TermSort]api.CoverForm{api.TypeInt: api.CoverInt, api.TypeBool: api.CoverBool, api.TypeUnit: api.CoverUnit, api.TypeData: api.CoverCon}[k.Sort]
	if form == 0 {
		form = api.CoverElse
	}
	if v.Form != form || form != api.CoverCon {
		return v.Form == form
	}
	con, has := conOf(o.Datas, k, v.Text)
	if !has || len(con.Args) != len(v.Parts) {
		return false
	}
	for i, p := range v.Parts {
		if !o.valueIs(p, con.Args[i]) {
			return false
		}
	}
	return true
}

// right reports whether a value, or none, can be the first one of those that are meant.
func (o *oracle) right(v api.CoverVal, none bool, is func(api.CoverVal) bool) bool {
	i := slices.IndexFunc(o.listed, is)
	if i >= 0 {
		return !none && same(v, o.listed[i])
	}
	return none || nodesOf(v) > o.most && o.valueIs(v, o.Type) && is(v)
}

// lives reports whether a type has values.
func (o *oracle) lives(k api.TermType, within []string) bool {
	if k.Sort != api.TypeData {
		return true
	}
	if slices.Contains(within, k.Text) {
		return false
	}
	return slices.ContainsFunc(consOf(o.Datas, k), func(c api.TermConDef) bool {
		return !slices.ContainsFunc(c.Args, func(arg api.TermType) bool { return !o.lives(arg, append(slices.Clip(within), k.Text)) })
	})
}

// exists reports whether there are values of some types, one each, that all of some lists of patterns match, and none of others.
// It goes by columns, as the ones who ask whether a pattern is of use do.
func (o *oracle) exists(kinds []api.TermType, all, none [][]api.TermPat) bool {
	if len(kinds) == 0 {
		return len(none) == 0
	}
	asked := false
	for _, l := range slices.Concat(all, none) {
		asked = asked || l[0].Form > api.PatName
	}
	heads := flat(kinds[0])
	for _, con := range consOf(o.Datas, kinds[0]) {
		heads = append(heads, conVal(con.Name))
	}
	if !asked {
		heads = []api.CoverVal{{}}
	}
	for _, h := range heads {
		var args []api.TermType
		if con, is := conOf(o.Datas, kinds[0], h.Text); is {
			args = con.Args
		} else if !o.lives(kinds[0], nil) {
			continue
		}
		yes, lost := under(all, h, len(args))
		no, _ := under(none, h, len(args))
		if !lost && o.exists(slices.Concat(args, kinds[1:]), yes, no) {
			return true
		}
	}
	return false
}

// under returns what lists of patterns ask for where the first value has a head, and whether some ask for another one.
func under(lists [][]api.TermPat, h api.CoverVal, args int) (out [][]api.TermPat, lost bool) {
	for _, l := range lists {
		switch {
		case l[0].Form <= api.PatName:
			out = append(out, slices.Concat(slices.Repeat([]api.TermPat{{Form: api.PatAny}}, args), l[1:]))
		case l[0].Text == h.Text && l[0].N == h.N:
			out = append(out, slices.Concat(l[0].Parts, l[1:]))
		default:
			lost = true
		}
	}
	return out, lost
}

// existsFor is exists for values of the Type, and numbers of rows.
func (o *oracle) existsFor(all, none []int) bool {
	lists := func(rows []int) [][]api.TermPat {
		var out [][]api.TermPat
		for _, r := range rows {
			out = append(out, []api.TermPat{o.Rows[r]})
		}
		return out
	}
	return o.exists([]api.TermType{o.Type}, lists(all), lists(none))
}

// step is a test that was passed, and the Kid by which it was left.
type step struct {
	test api.CoverNode
	kid  int
}

// headAt returns the type of a place, and its head if it is known (else one without a Form), as the steps of a way tell it; there is no such place if all is zero.
func (o *oracle) headAt(way []step, path []int) (api.TermType, api.CoverVal, bool) {
	k := o.Type
	if n := len(path); n > 0 {
		outer, h, there := o.headAt(way, path[:n-1])
		con, is := conOf(o.Datas, outer, h.Text)
		if i := path[n-1]; !there || !is || i < 0 || i >= len(con.Args) {
			return api.TermType{}, api.CoverVal{}, false
		}
		k = con.Args[path[n-1]]
	}
	gone := o.gone(way, path)
	for _, s := range way {
		if slices.Equal(s.test.Path, path) && s.kid < len(s.test.Heads) {
			return k, s.test.Heads[s.kid], true
		}
	}
	var left []api.CoverVal
	for _, h := range few(o.Datas, k) {
		if !slices.Contains(gone, written(h)) {
			left = append(left, h)
		}
	}
	if len(left) == 1 {
		return k, left[0], true
	}
	return k, api.CoverVal{}, true
}

// gone returns the heads of tests of a place that were left by their last Kid.
func (o *oracle) gone(way []step, path []int) []string {
	var out []string
	for _, s := range way {
		if slices.Equal(s.test.Path, path) && s.kid == len(s.test.Heads) {
			for _, h := range s.test.Heads {
				out = append(out, written(h))
			}
		}
	}
	return out
}

// few returns the heads of a type that has not as many as there are integers.
func few(datas []api.TermData, k api.TermType) []api.CoverVal {
	if k.Sort == api.TypeBool || k.Sort == api.TypeUnit {
		return flat(k)
	}
	var out []api.CoverVal
	for _, con := range consOf(datas, k) {
		out = append(out, conVal(con.Name))
	}
	return out
}

// isHead reports whether a value is one of the heads of a type.
func (o *oracle) isHead(h api.CoverVal, k api.TermType) bool {
	if k.Sort == api.TypeInt {
		return same(h, intVal(h.N)) && h.N >= -api.TermMost && h.N <= api.TermMost
	}
	return slices.ContainsFunc(few(o.Datas, k), func(x api.CoverVal) bool { return same(h, x) })
}

// treeFormed reports whether a tree, behind the steps of a way, is formed (whatever its size).
func (o *oracle) treeFormed(t api.CoverNode, way []step) bool {
	if len(t.Path)+len(t.Heads)+len(t.Kids) == 0 {
		return t.Row >= -1 && t.Row < len(o.Rows)
	}
	k, h, there := o.headAt(way, t.Path)
	if !there || h.Form != 0 || t.Row != 0 || len(t.Heads) == 0 || len(t.Kids) != len(t.Heads)+1 {
		return false
	}
	met := o.gone(way, t.Path)
	for _, h := range t.Heads {
		if slices.Contains(met, written(h)) || !o.isHead(h, k) {
			return false
		}
		met = append(met, written(h))
	}
	for i, kid := range t.Kids {
		if !o.treeFormed(kid, append(slices.Clip(way), step{t, i})) {
			return false
		}
	}
	return true
}

// walk returns the row to which a tree leads a value, and how many tests it passes.
func walk(t api.CoverNode, v api.CoverVal) (int, int) {
	if len(t.Kids) == 0 {
		return t.Row, 0
	}
	at := v
	for _, i := range t.Path {
		at = at.Parts[i]
	}
	at.Parts = nil
	for i, h := range t.Heads {
		if same(h, at) {
			row, tests := walk(t.Kids[i], v)
			return row, tests + 1
		}
	}
	row, tests := walk(t.Kids[len(t.Heads)], v)
	return row, tests + 1
}

// byRows returns the tree by rows, of any size, where nodes of a row are left to be looked at.
func (o *oracle) byRows(row int, nodes []spot, way []step) api.CoverNode {
	if row == len(o.Rows) {
		return leaf(-1)
	}
	next := func(way []step) api.CoverNode {
		if row+1 == len(o.Rows) {
			return leaf(-1)
		}
		return o.byRows(row+1, spots(o.Rows[row+1], nil), way)
	}
	for i, s := range nodes {
		want, asked := headOf(s.pat)
		_, h, _ := o.headAt(way, s.path)
		switch {
		case !asked, h.Form != 0 && same(h, want):
			continue
		case h.Form != 0, slices.Contains(o.gone(way, s.path), written(want)):
			return next(way)
		}
		t := api.CoverNode{Path: s.path, Heads: []api.CoverVal{want}, Kids: make([]api.CoverNode, 2)}
		t.Kids[0] = o.byRows(row, nodes[i+1:], append(slices.Clip(way), step{t, 0}))
		t.Kids[1] = next(append(slices.Clip(way), step{t, 1}))
		return t
	}
	return leaf(row)
}

// spot is a node of a pattern, with its place.
type spot struct {
	path []int
	pat  api.TermPat
}

func spots(p api.TermPat, path []int) []spot {
	out := []spot{{path, p}}
	for i, q := range p.Parts {
		out = append(out, spots(q, append(slices.Clip(path), i))...)
	}
	return out
}

// headOf returns the head that a pattern asks for.
func headOf(p api.TermPat) (api.CoverVal, bool) {
	form := map[api.TermForm]api.CoverForm{api.PatInt: api.CoverInt, api.PatBool: api.CoverBool, api.PatUnit: api.CoverUnit, api.PatCon: api.CoverCon}[p.Form]
	return api.CoverVal{Form: form, N: p.N, Text: p.Text}, form != 0
}

// ruled returns the tree by rows of the case.
func (o *oracle) ruled() api.CoverNode {
	if len(o.Rows) == 0 {
		return leaf(-1)
	}
	return o.byRows(0, spots(o.Rows[0], nil), nil)
}
