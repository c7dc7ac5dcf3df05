package cover_test

import (
	"slices"
	"testing"

	"hearth/api"
	"hearth/cover"
	"hearth/term"
)

// P4.2: what names mean, and which row is the first.
func TestMatchAndFirst(t *testing.T) {
	a, b, mix := caseA(t), caseB(t), caseOf(t, shop, "Mix", "Pair(x, true); Unit(a, Box(b, c, _), Unit(d, e, f)); Pair(1, y); Unit(_, _, Task(g)); z")
	for _, c := range []struct {
		c     api.CoverCase
		row   int
		v     string
		means string
		first string
	}{
		{a, 0, "Node(Leaf, 0, Leaf)", "x = Leaf", "0"}, {a, 1, "Node(Leaf, 0, Leaf)", "ErrNone", "0"}, {a, 2, "Leaf", "", "2"}, {a, 0, "Leaf", "ErrNone", "2"}, {a, 1, "Node(Leaf, 2, Leaf)", "ErrNone", "ErrNone"},
		{a, 0, "Node(Leaf, 0, Node(Leaf, 7, Leaf))", "x = Node(Leaf, 7, Leaf)", "0"}, {a, 0, "Node(Node(Leaf, 7, Leaf), 0, Leaf)", "ErrNone", "ErrNone"}, {a, 1, "Node(Node(Leaf, 7, Leaf), 1, Leaf)", "y = Node(Leaf, 7, Leaf)", "1"}, {a, 3, "Leaf", "ErrArg", "2"}, {a, -1, "Leaf", "ErrArg", "2"}, {a, 1 << 62, "Leaf", "ErrArg", "2"}, {a, 0, "5", "ErrArg", "ErrArg"}, {a, 5, "5", "ErrArg", "ErrArg"},
		{b, 0, "Two(true, false)", "", "0"}, {b, 1, "Two(true, true)", "", "0"}, {b, 3, "Two(true, true)", "z = Two(true, true)", "0"}, {b, 1, "Two(false, true)", "", "1"}, {b, 2, "Two(false, false)", "", "2"}, {b, 0, "Two(false, false)", "ErrNone", "2"}, {b, 3, "Two(false, false)", "z = Two(false, false)", "2"},
		{mix, 0, "Pair(~5, true)", "x = ~5", "0"}, {mix, 2, "Pair(1, true)", "y = true", "0"}, {mix, 2, "Pair(1, false)", "y = false", "2"}, {mix, 4, "Pair(2, false)", "z = Pair(2, false)", "4"},
		{mix, 1, "Unit((), Box(f, f, f), Unit((), Box(f, f, f), Empty))", "a = (), b = f, c = f, d = (), e = Box(f, f, f), f = Empty", "1"}, {mix, 3, "Unit((), Box(f, f, f), Task(f))", "g = f", "3"}, {mix, 1, "Unit((), Box(f, f, f), Task(f))", "ErrNone", "3"},
		{caseOf(t, "", "int", ""), 0, "1", "ErrArg", "ErrNone"}, {caseOf(t, "", "int", "1; x"), 1, "1", "x = 1", "0"}, {caseOf(t, "", "int", "~1; x"), 0, "1", "ErrNone", "1"}, {caseOf(t, "", "bool", "false; true"), 1, "true", "", "1"}, {caseOf(t, "", "unit", "()"), 0, "()", "", "0"}, {caseOf(t, "", "cell int", "c; _"), 0, "f", "c = f", "0"}, {caseOf(t, "", "cell int", "c; _"), 0, "1", "ErrArg", "ErrArg"},
	} {
		v := valOf(t, c.v)
		if got := bound(cover.Match(c.c, c.row, v)); got != c.means {
			t.Errorf("Match of row %d, %s: %s, not %s", c.row, c.v, got, c.means)
		}
		if got := numbered(cover.First(c.c, v)); got != c.first {
			t.Errorf("First of %s: %s, not %s", c.v, got, c.first)
		}
	}
}

// P4.2: many cases; names do not matter to first rows.
func TestMatchOfMany(t *testing.T) {
	d := newDice(2)
	named, matched := 0, 0
	for range 1000 {
		c := d.cases()
		o := newOracle(c, 300)
		other := c
		other.Rows = nil
		for _, p := range c.Rows {
			other.Rows = append(other.Rows, d.renamed(p))
		}
		if !slices.ContainsFunc(other.Rows, func(p api.TermPat) bool { return term.CheckPat(p) != api.OK }) {
			named++
		} else {
			other = c
		}
		for _, v := range o.listed {
			want, missed := o.first(v), api.OK
			if want < 0 {
				want, missed = 0, api.ErrNone
			}
			if n, e := cover.First(c, v); n != want || e != missed {
				t.Fatal(show(c), written(v), n, want, e)
			}
			if n, e := cover.First(other, v); n != want || e != missed {
				t.Fatal(show(other), written(v), n, want, e)
			}
		}
		for range 20 {
			if len(o.listed)*len(c.Rows) == 0 {
				break
			}
			row, v := d.Intn(len(c.Rows)), pick(d, o.listed)
			want := api.ErrNone
			var means []api.CoverBind
			if fits(c.Rows[row], v) {
				want, means = api.OK, meant(c.Rows[row], v)
				matched++
			}
			if l, e := cover.Match(c, row, v); e != want || !same(l, means) {
				t.Fatal(show(c), row, written(v), show(l), e)
			}
		}
	}
	if named < 500 || matched < 500 {
		t.Error("few cases of one kind:", named, matched)
	}
}

// renamed returns a pattern where any names are others, or none.
func (d dice) renamed(p api.TermPat) api.TermPat {
	if p.Form == api.PatName || p.Form == api.PatAny {
		return pick(d, []api.TermPat{{Form: api.PatAny}, p, {Form: api.PatName, Text: "x" + string([]byte{'a' + byte(d.Intn(26))})}})
	}
	p.Parts = slices.Clone(p.Parts)
	for i := range p.Parts {
		p.Parts[i] = d.renamed(p.Parts[i])
	}
	return p
}
