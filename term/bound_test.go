package term_test

import (
	"slices"
	"testing"

	"hearth/api"
	"hearth/term"
)

// P1.4: the names of a pattern, from left to right.
func TestPatternNames(t *testing.T) {
	for i, c := range []struct {
		p    api.TermPat
		want []string
	}{
		{pat("x"), []string{"x"}}, {api.TermPat{Form: api.PatAny}, nil}, {api.TermPat{Form: api.PatInt, N: 3}, nil}, {api.TermPat{Form: api.PatBool, N: 1}, nil}, {api.TermPat{Form: api.PatUnit}, nil}, {con("A"), nil},
		{con("A", pat("b"), pat("a")), []string{"b", "a"}}, {con("A", con("B", pat("z"), con("C", pat("y"))), api.TermPat{Form: api.PatAny}, con("D", pat("x"), pat("a"))), []string{"z", "y", "x", "a"}},
		{con("A", pat("d"), con("B", pat("c")), pat("b")), []string{"d", "c", "b"}},
	} {
		if l, e := term.Names(c.p); e != api.OK || !slices.Equal(l, c.want) {
			t.Error(i, l, e)
		}
	}
	for i, p := range []api.TermPat{{}, {Form: 7}, con("A", pat("a"), pat("a")), pat("let"), con("a"), con("A", pat("a"), api.TermPat{}), chain(13)} {
		if l, e := term.Names(p); e != api.ErrArg || len(l) > 0 {
			t.Error(i, l, e)
		}
	}
}

// P1.4: the names that are free, each once and sorted; each binder binds in its Kids alone.
func TestFree(t *testing.T) {
	a, b, x, y := name("a"), name("b"), name("x"), name("y")
	for i, c := range []struct {
		t    api.Term
		want []string
	}{
		{num(1), nil}, {x, []string{"x"}}, {fun("x", plus(x, y)), []string{"y"}}, {let("x", x, x), []string{"x"}}, {let("x", y, x), []string{"y"}}, {example(), []string{"a", "d"}},
		{shift("x", plus(x, y)), []string{"y"}}, {plus(y, plus(x, y)), []string{"x", "y"}}, {plus(name("b"), plus(name("aa"), a)), []string{"a", "aa", "b"}}, {plus(fun("x", x), x), []string{"x"}}, {plus(x, fun("x", x)), []string{"x"}},
		{match(b, row{pat("b"), b}), []string{"b"}}, {match(num(1), row{pat("a"), plus(a, b)}, row{pat("b"), plus(a, b)}), []string{"a", "b"}}, {match(num(1), row{con("C", pat("a"), con("C", pat("b"))), plus(a, b)}), nil},
		{fun("x", fun("y", plus(x, y))), nil}, {fun("x", let("x", x, x)), nil}, {bind(api.TermCon, "Con", x), []string{"x"}}, {match(x, row{con("C"), y}), []string{"x", "y"}},
		{api.Term{Op: api.TermOut, N: 1, Kids: []api.Term{x}}, []string{"x"}},
	} {
		if l, e := term.Free(c.t); e != api.OK || !slices.Equal(l, c.want) {
			t.Error(i, l, e)
		}
	}
}

// freeOf returns the names that are free in a term, as the tests have them.
func freeOf(t api.Term) []string {
	var out []string
	nameless(t, nil, func(s string) string {
		out = append(out, s)
		return s
	})
	slices.Sort(out)
	return slices.Compact(out)
}

func TestFreeOfMany(t *testing.T) {
	d := dice(5)
	for range 1000 {
		u := d.formed(60, 6)
		before := show(u)
		if l, e := term.Free(u); e != api.OK || !slices.Equal(l, freeOf(u)) || show(u) != before {
			t.Fatal(before, l, e)
		}
	}
}

// swap is a call of Subst with its result.
type swap struct {
	t    api.Term
	name string
	by   api.Term
	want api.Term
}

func checkSwaps(t *testing.T, list []swap) {
	t.Helper()
	for i, c := range list {
		if v, e := term.Subst(c.t, c.name, c.by); e != api.OK || !equal(v, c.want) {
			t.Errorf("%d: %s, not %s (%d)", i, show(v), show(c.want), e)
		}
	}
}

// P1.5: where the name is free, and where it is not.
func TestSubst(t *testing.T) {
	a, b, x, y, z := name("a"), name("b"), name("x"), name("y"), name("z")
	checkSwaps(t, []swap{
		{x, "x", plus(y, y), plus(y, y)},
		{x, "y", z, x},
		{plus(x, plus(y, x)), "x", num(3), plus(num(3), plus(y, num(3)))},
		{x, "x", x, x},
		{fun("x", x), "x", y, fun("x", x)},
		{fun("x", fun("y", x)), "x", y, fun("x", fun("y", x))},
		{fun("y", plus(x, y)), "x", num(3), fun("y", plus(num(3), y))},
		{let("x", x, x), "x", y, let("x", y, x)},
		{let("x", plus(x, y), fun("y", x)), "x", num(1), let("x", plus(num(1), y), fun("y", x))},
		{shift("x", x), "x", y, shift("x", x)},
		{shift("k", x), "x", y, shift("k", y)},
		{match(x, row{pat("x"), x}, row{pat("y"), plus(x, y)}, row{con("A", con("B", pat("x"))), x}), "x", z, match(z, row{pat("x"), x}, row{pat("y"), plus(z, y)}, row{con("A", con("B", pat("x"))), x})},
		{node(api.TermIf, x, fun("x", x), x), "x", b, node(api.TermIf, b, fun("x", x), b)},
		{bind(api.TermCon, "Con", x, a), "x", b, bind(api.TermCon, "Con", b, a)},
		{api.Term{Op: api.TermOut, N: 2, Kids: []api.Term{x}}, "x", num(1), api.Term{Op: api.TermOut, N: 2, Kids: []api.Term{num(1)}}},
	})
}

// P1.5: names that would catch one are chosen anew, and no others.
func TestSubstChoosesAnew(t *testing.T) {
	a, b, c, x, y, z := name("a"), name("b"), name("c"), name("x"), name("y"), name("z")
	checkSwaps(t, []swap{
		{fun("x", plus(x, y)), "y", x, fun("a", plus(a, x))},
		{shift("x", plus(x, y)), "y", x, shift("a", plus(a, x))},
		{let("x", plus(x, y), plus(x, y)), "y", x, let("a", plus(x, x), plus(a, x))},
		{example(), "d", plus(b, c), match(a, row{con("Cons", pat("e"), pat("f")), plus(name("e"), plus(b, c))})},
		{fun("x", plus(x, y)), "z", x, fun("x", plus(x, y))},                                       // z is not free
		{fun("x", let("z", z, plus(x, z))), "z", x, fun("a", let("z", x, plus(a, z)))},             // an inner binder of z stays
		{fun("x", y), "y", plus(a, fun("x", x)), fun("x", plus(a, fun("x", x)))},                   // x is bound in what is put in
		{fun("x", fun("x", plus(x, y))), "y", x, fun("a", fun("a", plus(a, x)))},                   // each part for itself
		{fun("x", fun("z", plus(y, z))), "y", plus(x, z), fun("a", fun("a", plus(plus(x, z), a)))}, // the outer a does not stand in the inner part
		{fun("x", fun("z", plus(x, plus(y, z)))), "y", plus(x, z), fun("a", fun("b", plus(a, plus(plus(x, z), b))))},
		{fun("x", fun("a", plus(y, x))), "y", x, fun("b", fun("a", plus(x, b)))}, // a stands in it as bound
		{fun("x", match(y, row{con("A", pat("a"), con("B", pat("b"))), x})), "y", x, fun("c", match(x, row{con("A", pat("a"), con("B", pat("b"))), c}))},
		{fun("x", plus(y, a)), "y", x, fun("b", plus(x, a))}, // a stands in it as free
		{fun("x", y), "y", plus(x, a), fun("b", plus(x, a))}, // a is free in what is put in
		{fun("b", a), "a", b, fun("c", b)},                   // a is the name
	})
}

// P1.5: the binders of a match, and of a let, one after the other.
func TestSubstInMatch(t *testing.T) {
	a, b, x, y, z := name("a"), name("b"), name("x"), name("y"), name("z")
	checkSwaps(t, []swap{
		// The same name in two Kids becomes two names.
		{match(y, row{pat("x"), plus(x, y)}, row{con("A", pat("x")), x}), "y", x, match(x, row{pat("a"), plus(a, x)}, row{con("A", pat("b")), b})},
		// From left to right, over Kids in order; a name that catches nothing stays.
		{match(y, row{con("A", pat("z"), pat("y"), pat("x")), plus(x, plus(y, z))}, row{pat("z"), z}), "y", plus(x, z), match(plus(x, z), row{con("A", pat("a"), pat("y"), pat("b")), plus(b, plus(y, a))}, row{pat("c"), name("c")})},
		// Also where the name itself is bound, or is not at all.
		{match(y, row{pat("x"), num(1)}), "y", x, match(x, row{pat("a"), num(1)})},
		{match(x, row{pat("x"), x}), "x", plus(x, num(1)), match(plus(x, num(1)), row{pat("a"), a})},
		{match(x, row{pat("x"), fun("x", x)}, row{pat("y"), x}), "x", plus(x, y), match(plus(x, y), row{pat("a"), fun("x", x)}, row{pat("b"), plus(x, y)})},
		{let("x", y, num(1)), "y", x, let("a", x, num(1))},
		{let("x", x, x), "x", x, let("a", x, a)},
		// An inner binder of a name that is chosen anew stays.
		{match(y, row{pat("x"), plus(x, fun("x", x))}), "y", x, match(x, row{pat("a"), plus(a, fun("x", x))})},
		{match(y, row{pat("x"), let("x", x, x)}), "y", x, match(x, row{pat("a"), let("x", a, x)})},
		{match(y, row{pat("x"), match(x, row{con("A", pat("x")), x})}), "y", x, match(x, row{pat("a"), match(a, row{con("A", pat("x")), x})})},
		// The value of a match is bound by none of its patterns.
		{match(plus(x, y), row{pat("x"), x}), "y", x, match(plus(x, x), row{pat("a"), a})},
	})
}

// P1.5: for many terms the result is the term without bound names, with the other one at each place of the name: nothing was caught.
func TestSubstCatchesNothing(t *testing.T) {
	d := dice(6)
	for range 3000 {
		u, by := d.formed(20, 5), d.formed(4, 3)
		s := []string{"a", "b", "x"}[d.throw(3)]
		beforeTerm, beforeBy := show(u), show(by)
		v, e := term.Subst(u, s, by)
		if show(u) != beforeTerm || show(by) != beforeBy {
			t.Fatal("an argument was changed")
		}
		want := nameless(u, nil, func(free string) string {
			if free == s {
				return nameless(by, nil, itself)
			}
			return free
		})
		if e == api.ErrLong {
			continue
		}
		if e != api.OK || nameless(v, nil, itself) != want || term.Check(v) != api.OK {
			t.Fatal(show(u), s, show(by), show(v), e)
		}
		if !slices.Contains(freeOf(u), s) && !equal(u, v) {
			t.Fatal(show(u), s, show(by), show(v), "the name is not free")
		}
	}
}

// P1.5: what is refused, and results that would not be formed.
func TestSubstErrors(t *testing.T) {
	x, y := name("x"), name("y")
	large := plus(x, wideOf(58, y)) // 60 nodes
	for i, c := range []struct {
		t    api.Term
		name string
		by   api.Term
		want api.Errno
	}{
		{api.Term{}, "x", x, api.ErrArg}, {x, "", x, api.ErrArg}, {x, "let", x, api.ErrArg}, {x, "X", x, api.ErrArg}, {x, "abcdefghi", x, api.ErrArg}, {x, "x", api.Term{}, api.ErrArg}, {x, "y", api.Term{}, api.ErrArg},
		{large, "x", num(1), api.OK}, {large, "x", wide(2), api.ErrLong}, {large, "x", wide(60), api.ErrLong}, {large, "z", wide(60), api.OK}, {x, "x", wide(60), api.OK}, {large, "let", wide(60), api.ErrArg}, {large, "x", wide(61), api.ErrArg},
		{plus(x, x), "x", wide(29), api.OK}, {plus(x, x), "x", wide(30), api.ErrLong}, {plus(x, fun("x", x)), "x", wide(57), api.OK}, {wide(60), "x", wide(60), api.ErrLong},
		{deep(13, x), "x", deep(2, y), api.OK}, {deep(13, x), "x", deep(3, y), api.ErrLong}, {deep(14, x), "x", y, api.OK}, {deep(14, x), "x", deep(2, y), api.ErrLong}, {x, "x", deep(14, y), api.OK}, {fun("y", x), "x", deep(13, y), api.OK}, {fun("y", x), "x", deep(14, y), api.ErrLong},
	} {
		v, e := term.Subst(c.t, c.name, c.by)
		if e != c.want || e != api.OK && !zero(v) {
			t.Error(i, e)
		}
	}
}

// wideOf returns a wide term with another name.
func wideOf(nodes int, n api.Term) api.Term {
	u := wide(nodes)
	for _, p := range paths(u) {
		if len(p) == 0 {
			continue
		}
		at := part(u, p[:len(p)-1])
		if at.Kids[p[len(p)-1]].Op == api.TermName {
			at.Kids[p[len(p)-1]] = n
		}
	}
	return u
}

// R4: what is put in for a name is new at each place.
func TestSubstMemory(t *testing.T) {
	by := match(name("y"), row{con("A", pat("p")), plus(name("p"), name("x"))})
	for i, u := range []api.Term{plus(name("x"), name("x")), name("x"), fun("y", plus(name("x"), by)), match(name("x"), row{con("B", con("C", pat("q"))), name("x")}), num(1), by} {
		for _, s := range []string{"x", "z"} {
			if !apart(func(a []api.Term) api.Term { v, _ := term.Subst(a[0], s, a[1]); return v }, u, by) {
				t.Error(i, s, "shares memory")
			}
			if v, e := term.Subst(u, s, by); e != api.OK || !loose(v) {
				t.Error(i, s, "lists of one result share memory", e)
			}
		}
	}
}

// P1.6: examples, and what is not the same.
func TestAlike(t *testing.T) {
	x, y, z := name("x"), name("y"), name("z")
	for i, c := range []struct {
		a, b api.Term
		want bool
	}{
		{fun("x", x), fun("y", y), true}, {fun("x", y), fun("y", y), false}, {fun("y", y), fun("x", y), false}, {x, x, true}, {x, y, false}, {num(1), num(2), false}, {fun("x", z), fun("y", z), true}, {fun("x", z), fun("y", x), false},
		{fun("x", fun("y", x)), fun("y", fun("x", y)), true}, {fun("x", fun("y", x)), fun("x", fun("y", y)), false}, {fun("x", fun("x", x)), fun("x", fun("y", y)), true}, {fun("x", fun("x", x)), fun("y", fun("x", y)), false},
		{let("x", x, x), let("y", x, y), true}, {let("x", x, x), let("y", y, y), false}, {let("x", x, x), let("y", x, x), false}, {shift("k", x), fun("k", x), false}, {shift("k", name("k")), shift("x", x), true},
		{match(x, row{con("A", pat("y"), pat("z")), y}), match(x, row{con("A", pat("z"), pat("y")), z}), true}, {match(x, row{con("A", pat("y"), pat("z")), y}), match(x, row{con("A", pat("y"), pat("z")), z}), false},
		{match(x, row{con("A", pat("y")), y}), match(x, row{con("B", pat("y")), y}), false}, {match(x, row{pat("y"), num(1)}), match(x, row{api.TermPat{Form: api.PatAny}, num(1)}), false}, {match(x, row{pat("y"), num(1)}), match(x, row{pat("z"), num(1)}), true},
		{match(x, row{api.TermPat{Form: api.PatInt, N: 1}, y}), match(x, row{api.TermPat{Form: api.PatInt, N: 2}, y}), false}, {match(x, row{pat("y"), y}, row{pat("y"), y}), match(x, row{pat("y"), y}, row{pat("z"), z}), true}, {match(x, row{pat("y"), y}), match(x, row{pat("y"), y}, row{pat("y"), y}), false},
		{bind(api.TermCon, "A"), bind(api.TermCon, "B"), false}, {bind(api.TermCon, "A", x), bind(api.TermCon, "A", x, x), false}, {node(api.TermCell, x), node(api.TermGet, x), false}, {match(x, row{con("A", pat("y")), y}), match(x, row{con("A", con("A")), y}), false},
		{fun("x", plus(x, name("a"))), fun("a", plus(name("a"), name("a"))), false}, {fun("a", plus(name("a"), x)), fun("x", plus(x, name("a"))), false},
	} {
		is, e := term.Alike(c.a, c.b)
		back, f := term.Alike(c.b, c.a)
		if is != c.want || back != c.want || e != api.OK || f != api.OK {
			t.Error(i, is, back, e, f)
		}
	}
}

// P1.6: patterns without names differ by their Form, their N, their Text and their Parts.
func TestAlikePatterns(t *testing.T) {
	none, unit := api.TermPat{Form: api.PatAny}, api.TermPat{Form: api.PatUnit}
	list := []api.TermPat{none, unit, con("A"), con("B"), con("A", none), con("A", unit), con("A", none, none), con("A", con("A")), con("A", con("B"))}
	for n := range 2 {
		list = append(list, api.TermPat{Form: api.PatInt, N: n}, api.TermPat{Form: api.PatBool, N: n})
	}
	for i, p := range list {
		for j, q := range list {
			if is, e := term.Alike(match(num(1), row{p, num(2)}), match(num(1), row{q, num(2)})); is != (i == j) || e != api.OK {
				t.Error(showPat(p), showPat(q), is, e)
			}
		}
	}
}

// shapes returns all terms of one shape with few names in it, and the same with other binders.
func shapes() []api.Term {
	var out []api.Term
	ab := []string{"a", "b"}
	for i := range 64 {
		pick := func(bit int) string { return ab[i>>bit&1] }
		p := con("Two", pat("a"), pat("b"))
		if i&4 > 0 {
			p = con("Two", pat("b"), pat("a"))
		}
		body := match(name(pick(1)), row{p, plus(name(pick(3)), name(pick(4)))})
		out = append(out, fun(pick(0), let(pick(5), name(pick(3)), body)))
		if i < 32 {
			out = append(out, shift(pick(0), let(pick(1), name(pick(2)), plus(name(pick(3)), name(pick(4))))))
		}
	}
	return out
}

// P1.6: two terms are alike just if they are the same without their bound names, and just if they are equal with these chosen anew.
func TestAlikeOfAllPairs(t *testing.T) {
	list := shapes()
	d := dice(7)
	for range 60 {
		list = append(list, d.formed(6, 3))
	}
	alike := 0
	for _, a := range list {
		c, _ := term.Canon(a)
		for _, b := range list {
			want := nameless(a, nil, itself) == nameless(b, nil, itself)
			is, e := term.Alike(a, b)
			x, f := term.Canon(b)
			if e != api.OK || f != api.OK || is != want || equal(c, x) != want {
				t.Fatal(show(a), show(b), is, want, e, f)
			}
			if want {
				alike++
			}
		}
	}
	if alike <= len(list) || alike == len(list)*len(list) {
		t.Error("the pairs are all of one kind:", alike)
	}
}

// P1.6: names are chosen part by part, a part before its Kids, of a match over all its patterns, and not those that are free anywhere.
func TestCanon(t *testing.T) {
	a, b, c, d, x, y, z := name("a"), name("b"), name("c"), name("d"), name("x"), name("y"), name("z")
	for i, u := range []struct{ t, want api.Term }{
		{x, x}, {num(1), num(1)}, {fun("y", fun("x", apply(y, z))), fun("a", fun("b", apply(a, z)))}, {fun("x", plus(a, x)), fun("b", plus(a, b))}, {fun("b", fun("c", plus(b, plus(c, a)))), fun("b", fun("c", plus(b, plus(c, a))))},
		{plus(fun("x", x), fun("x", x)), plus(fun("a", a), fun("b", b))}, {plus(fun("x", x), b), plus(fun("a", a), b)}, {plus(fun("x", x), a), plus(fun("b", b), a)}, {fun("x", num(1)), fun("a", num(1))}, {fun("a", fun("a", a)), fun("a", fun("b", b))},
		{let("x", fun("y", y), x), let("a", fun("b", b), a)}, {let("x", x, x), let("a", x, a)}, {let("a", a, a), let("b", a, b)}, {shift("k", apply(name("k"), x)), shift("a", apply(a, x))},
		{match(x, row{con("A", pat("y"), pat("z")), fun("z", plus(y, z))}), match(x, row{con("A", pat("a"), pat("b")), fun("c", plus(a, c))})},
		{match(fun("x", x), row{con("A", pat("y"), con("B", pat("z"))), fun("x", plus(y, z))}, row{pat("y"), plus(y, z)}), match(fun("d", d), row{con("A", pat("a"), con("B", pat("b"))), fun("e", plus(a, b))}, row{pat("c"), plus(c, z)})},
	} {
		if v, e := term.Canon(u.t); e != api.OK || !equal(v, u.want) {
			t.Errorf("%d: %s, not %s (%d)", i, show(v), show(u.want), e)
		}
	}
}

// bounds returns the names that a term binds, a part before its Kids.
func bounds(t api.Term) []string {
	var out []string
	for _, p := range paths(t) {
		at := part(t, p)
		for i := range at.Kids {
			out = append(out, binds(at, i)...)
		}
	}
	return out
}

// P1.6: with its names chosen anew a term is alike, and they are the first names that are not free in it.
func TestCanonOfMany(t *testing.T) {
	d := dice(8)
	for range 1000 {
		u := d.formed(60, 6)
		v, e := term.Canon(u)
		is, f := term.Alike(u, v)
		again, g := term.Canon(v)
		if e != api.OK || f != api.OK || g != api.OK || !is || !equal(v, again) || nameless(u, nil, itself) != nameless(v, nil, itself) {
			t.Fatal(show(u), show(v), e, f, g)
		}
		taken := freeOf(u)
		for _, s := range bounds(v) {
			if s != term.Fresh(taken) {
				t.Fatal(show(u), show(v), s)
			}
			taken = append(taken, s)
		}
		if !apart(func(l []api.Term) api.Term { w, _ := term.Canon(l[0]); return w }, u) || !loose(v) {
			t.Fatal(show(u), "shares memory")
		}
	}
}

// P1.6: so many binders that keywords are among the strings that are gone through.
func TestCanonOverKeywords(t *testing.T) {
	full := con("A", con("B", pat("a"), pat("b"), pat("c")), con("B", pat("d"), pat("e"), pat("f")), con("B", pat("g"), pat("h")))
	u := plus(name("a"), name("ig"))
	for range 9 {
		u = match(num(1), row{full, num(1)}, row{full, num(1)}, row{full, num(1)}, row{full, num(1)}, row{full, u})
	}
	v, e := term.Canon(plus(u, name("ig")))
	if e != api.OK {
		t.Fatal(e)
	}
	var want []string
	for _, s := range words() {
		if len(want) < 360 && !slices.Contains(keywords, s) && s != "ig" {
			want = append(want, s)
		}
	}
	if !slices.Equal(bounds(v), want) {
		t.Error(bounds(v))
	}
}

// P0.12, R2: errors have zero values beside them, for terms with any fields.
func TestAnyTerms(t *testing.T) {
	d := dice(9)
	for i := range 3000 {
		u := d.formed(20, 5)
		list := paths(u)
		at := &u
		for _, k := range list[d.throw(len(list))] {
			at = &at.Kids[k]
		}
		switch d.throw(5) {
		case 0:
			at.Op = api.TermOp(d.throw(40) - 5)
		case 1:
			at.N = numbers()[d.throw(len(numbers()))]
		case 2:
			at.Text = []string{"", "x", "X", "let", "\xff"}[d.throw(5)]
		case 3:
			at.Kids = append(slices.Clone(at.Kids), num(1))
		case 4:
			at.Pats = append(slices.Clone(at.Pats), d.pat([]string{"a", "b"}))
		}
		if term.Check(u) != api.OK {
			refused(t, i, u)
			continue
		}
		if v, e := term.Canon(u); e != api.OK || nameless(u, nil, itself) != nameless(v, nil, itself) {
			t.Error(i, show(u), show(v), e)
		}
	}
}
