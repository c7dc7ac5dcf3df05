package cover

import (
	"math/bits"
	"slices"

	"hearth/api"
)

// rowSet is a set of rows: the bit of each one.
type rowSet uint

func (s rowSet) has(row int) bool { return s>>row&1 == 1 }

// first returns the first row of a set, or -1.
func (s rowSet) first() int {
	if s == 0 {
		return -1
	}
	return bits.TrailingZeros(uint(s))
}

// want is what a search wants of the rows that match a value.
type want interface {
	of(matching rowSet) bool
}

type (
	missing struct{}           // there is none
	sample  struct{ row int }  // this one is the first
	both    struct{ a, b int } // these two are among them
	astray  struct{ leaf int } // another one is the first (or one is, if it is -1)
)

func (missing) of(matching rowSet) bool  { return matching == 0 }
func (w sample) of(matching rowSet) bool { return matching.first() == w.row }
func (w both) of(matching rowSet) bool   { return matching.has(w.a) && matching.has(w.b) }
func (w astray) of(matching rowSet) bool { return matching.first() != w.leaf }

// rowsOf returns the rows that there have to be for a search.
func rowsOf(w want) []int {
	switch w := w.(type) {
	case sample:
		return []int{w.row}
	case both:
		return []int{w.a, w.b}
	}
	return nil
}

// search returns the first value of the type of a case that is wanted.
func search(c api.CoverCase, w want) (api.CoverVal, api.Errno) {
	k, ok := check(c)
	if !ok {
		return api.CoverVal{}, api.ErrArg
	}
	for _, row := range rowsOf(w) {
		if !k.hasRow(row) {
			return api.CoverVal{}, api.ErrArg
		}
	}
	found := newSearcher(k).all(known{TermType: k.Type}).first(k, w)
	if found.none() {
		return api.CoverVal{}, api.ErrNone
	}
	return copyOf(found.val), api.OK
}

// found is a value that was found, with how many nodes it has, or none.
type found struct {
	val   api.CoverVal
	nodes int
}

func (a found) none() bool { return a.nodes == 0 }

// earlier returns that one of two values which comes first.
func (k checked) earlier(a, b found) found {
	switch {
	case a.none():
		return b
	case b.none():
		return a
	case a.nodes < b.nodes, a.nodes == b.nodes && k.compare(a.val, b.val) <= 0:
		return a
	}
	return b
}

// values are, for each set of rows, the first value of a place that just these rows match there.
type values [1 << api.CoverRows]found

// add takes a value in. One that has too many nodes is none.
func (l *values) add(k checked, matching rowSet, a found) {
	if a.nodes <= api.CoverVals {
		l[matching] = k.earlier(l[matching], a)
	}
}

// first returns the first value that is wanted.
func (l *values) first(k checked, w want) found {
	var out found
	for matching, a := range l {
		if w.of(rowSet(matching)) {
			out = k.earlier(out, a)
		}
	}
	return out
}

// searcher finds first values. Those of a place depend on the rows, on what is known of it, and on how deep they may be.
// A value of a constructor comes first if each of its Parts does so among those that the same rows match.
type searcher struct {
	checked
	least []map[string]found // the first value of each data type, by the depth that it may have
}

func newSearcher(k checked) searcher {
	s := searcher{checked: k, least: []map[string]found{nil}}
	// With more depth than this nothing changes: a first value has none of its own type within itself, as that one came before it.
	for depth := 1; depth <= api.TermDatas+1; depth++ {
		level := map[string]found{}
		for _, d := range k.Datas {
			var out found
			for _, h := range k.headsOf(api.TermType{Sort: api.TypeData, Text: d.Name}) {
				out = k.earlier(out, s.leastWith(h, depth))
			}
			level[d.Name] = out
		}
		s.least = append(s.least, level)
	}
	return s
}

// leastWith returns the first value with a head that has at most a depth.
func (s searcher) leastWith(h head, depth int) found {
	out := found{h.val(), 1}
	for _, arg := range s.argsOf(h) {
		part := s.leastOf(arg, depth-1)
		if part.none() {
			return found{}
		}
		out = joined(out, part)
	}
	return out
}

// leastOf returns the first value of a type that has at most a depth.
func (s searcher) leastOf(t api.TermType, depth int) found {
	if depth <= 0 {
		return found{}
	}
	switch t.Sort {
	case api.TypeInt:
		return found{api.CoverVal{Form: api.CoverInt}, 1}
	case api.TypeBool:
		return found{api.CoverVal{Form: api.CoverBool}, 1}
	case api.TypeUnit:
		return found{api.CoverVal{Form: api.CoverUnit}, 1}
	case api.TypeData:
		return s.least[min(depth, len(s.least)-1)][t.Text]
	}
	return found{api.CoverVal{Form: api.CoverElse}, 1}
}

// joined returns a value with one Part more.
func joined(a, part found) found {
	a.val.Parts = append(slices.Clip(a.val.Parts), part.val)
	a.nodes += part.nodes
	return a
}

// all returns the first values of the type of the case, for each set of rows, where something is known.
func (s searcher) all(root known) *values { return s.at(root, s.Rows, api.CoverDepth) }

// at returns the first values of a place; pats are what the rows ask for there.
func (s searcher) at(place known, pats []api.TermPat, depth int) *values {
	out := &values{}
	if depth == 0 {
		return out
	}
	if place.bare() && !slices.ContainsFunc(pats, asksAny) {
		out.add(s.checked, 1<<len(pats)-1, s.leastOf(place.TermType, depth))
		return out
	}
	for _, h := range s.candidates(place, pats) {
		for matching, a := range s.under(place, h, pats, depth) {
			out.add(s.checked, rowSet(matching), a)
		}
	}
	return out
}

func asksAny(p api.TermPat) bool {
	_, asked := asks(p)
	return asked
}

// candidates returns the heads that a place can have, of integers those that the rows ask for, and the first one of all others.
func (s searcher) candidates(place known, pats []api.TermPat) []head {
	if _, told := s.headAt(place); told || place.Sort != api.TypeInt {
		return s.left(place)
	}
	var out []head
	for _, p := range pats {
		if h, asked := asks(p); asked && !slices.Contains(place.not, h) && !slices.Contains(out, h) {
			out = append(out, h)
		}
	}
	met := map[head]bool{}
	for _, h := range slices.Concat(place.not, out) {
		met[h] = true
	}
	other := head{form: api.CoverInt}
	for met[other] {
		other.n = nextInt(other.n)
	}
	return append(out, other)
}

// nextInt returns the integer that comes next: 0, 1, -1, 2, -2 and so on.
func nextInt(n int) int {
	if n > 0 {
		return -n
	}
	return 1 - n
}

// under returns the first values of a place that have a head.
func (s searcher) under(place known, h head, pats []api.TermPat, depth int) *values {
	var matching rowSet
	for row, p := range pats {
		if asked, is := asks(p); !is || asked == h {
			matching |= 1 << row
		}
	}
	out := &values{}
	out.add(s.checked, matching, found{h.val(), 1})
	for i, part := range s.partsAt(place, h) {
		below := make([]api.TermPat, len(pats))
		for row, p := range pats {
			below[row] = api.TermPat{Form: api.PatAny}
			if asked, is := asks(p); is && asked == h {
				below[row] = p.Parts[i]
			}
		}
		out = s.combine(out, s.at(part, below, depth-1))
	}
	return out
}

// combine returns the values of a list with those of another one as their next Parts: a row matches them if it matches both.
func (s searcher) combine(list, parts *values) *values {
	out := &values{}
	for matching, a := range list {
		if a.none() {
			continue
		}
		for within, part := range parts {
			if !part.none() {
				out.add(s.checked, rowSet(matching&within), joined(a, part))
			}
		}
	}
	return out
}
