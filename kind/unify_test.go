package kind_test

import (
	"slices"
	"testing"

	"hearth/api"
	"hearth/kind"
	"hearth/term"
)

// P3.1: the most general solution of two types.
func TestUnify(t *testing.T) {
	for _, c := range []struct{ a, b, want string }{
		{"?0 -> int", "bool -> ?1", "bool, int"},
		{"?0", "?1", "?0, ?0"},
		{"?1", "?0", "?0, ?0"},
		{"?0", "?0 -> int", "ErrRule"},
		{"cell ?0", "chan ?0", "ErrRule"},
		// Nothing is to be solved.
		{"int", "int", ""}, {"?0", "?0", ""}, {"?7 -> List", "?7 -> List", ""}, {"cell task unit", "cell task unit", ""},
		// Holes before the last one that has a type have themselves.
		{"?3", "int", "?0, ?1, ?2, int"}, {"int", "?2", "?0, ?1, int"}, {"?5 -> ?9", "?5 -> unit", "?0, ?1, ?2, ?3, ?4, ?5, ?6, ?7, ?8, unit"},
		{"?3", "?1", "?0, ?1, ?2, ?1"},
		// Of holes that are equal the least one stands for all.
		{"?5 -> ?3", "?3 -> ?1", "?0, ?1, ?2, ?1, ?4, ?1"}, {"?3 -> ?1", "?5 -> ?3", "?0, ?1, ?2, ?1, ?4, ?1"}, {"?1 -> ?2 -> ?2", "?2 -> ?3 -> ?0", "?0, ?0, ?0, ?0"},
		{"?2 -> ?1 -> ?2", "?3 -> ?0 -> ?1", "?0, ?0, ?0, ?0"},
		// Types of holes have no hole that has a type.
		{"?0 -> ?1", "cell ?1 -> int", "cell int, int"}, {"?1 -> ?0", "int -> cell ?1", "cell int, int"}, {"?0 -> ?1 -> ?2", "?1 -> ?2 -> bool", "bool, bool, bool"},
		{"?0 -> ?2 -> ?1", "cell ?1 -> task ?0 -> chan ?3", "cell chan ?3, chan ?3, task cell chan ?3"},
		{"?0 -> ?1 -> ?0", "?1 -> cell ?2 -> cell int", "cell int, cell int, int"},
		// The same hole on both sides stands for one type.
		{"?0 -> ?0", "int -> bool", "ErrRule"}, {"?0 -> ?0", "int -> int", "int"}, {"?0 -> int", "bool -> ?0", "ErrRule"}, {"?0 -> ?0", "cell ?1 -> cell unit", "cell unit, unit"},
		// Each sort of types with itself alone.
		{"int", "bool", "ErrRule"}, {"bool", "unit", "ErrRule"}, {"unit", "List", "ErrRule"}, {"List", "Box", "ErrRule"}, {"List", "List", ""}, {"int -> int", "int", "ErrRule"}, {"cell int", "cell bool", "ErrRule"}, {"cell int", "task int", "ErrRule"}, {"chan int", "task int", "ErrRule"}, {"int -> int", "cell int", "ErrRule"},
		{"int -> int -> int", "(int -> int) -> int", "ErrRule"},
		// No type lies within itself.
		{"?0", "cell ?0", "ErrRule"}, {"cell ?3", "?3", "ErrRule"}, {"?0 -> ?1", "cell ?1 -> cell ?0", "ErrRule"}, {"?0 -> ?1", "?1 -> cell ?0", "ErrRule"}, {"?0 -> ?0", "?1 -> cell ?1", "ErrRule"}, {"?0 -> ?1 -> ?2", "cell ?1 -> cell ?2 -> cell ?0", "ErrRule"},
		{"?0 -> ?1 -> ?0", "cell ?2 -> cell ?3 -> ?1", "cell ?2, cell ?2, ?2, ?2"},
		{"?99", "?98 -> int", "?0, ?1, ?2, ?3, ?4, ?5, ?6, ?7, ?8, ?9, ?10, ?11, ?12, ?13, ?14, ?15, ?16, ?17, ?18, ?19, ?20, ?21, ?22, ?23, ?24, ?25, ?26, ?27, ?28, ?29, ?30, ?31, ?32, ?33, ?34, ?35, ?36, ?37, ?38, ?39, ?40, ?41, ?42, ?43, ?44, ?45, ?46, ?47, ?48, ?49, ?50, ?51, ?52, ?53, ?54, ?55, ?56, ?57, ?58, ?59, ?60, ?61, ?62, ?63, ?64, ?65, ?66, ?67, ?68, ?69, ?70, ?71, ?72, ?73, ?74, ?75, ?76, ?77, ?78, ?79, ?80, ?81, ?82, ?83, ?84, ?85, ?86, ?87, ?88, ?89, ?90, ?91, ?92, ?93, ?94, ?95, ?96, ?97, ?98, ?98 -> int"},
	} {
		l, e := kind.Unify(typeOf(t, c.a), typeOf(t, c.b))
		if got := printed(t, l, e); got != c.want {
			t.Errorf("Unify(%s, %s): %s, not %s", c.a, c.b, got, c.want)
		}
	}
}

// P3.1: a type of the solution that would not be formed; that there is no solution comes first.
func TestUnifyLong(t *testing.T) {
	for _, c := range []struct{ a, b, want string }{
		{"?0 -> ?1", "(?1 -> ?1) -> int -> int -> int", "(int -> int -> int) -> int -> int -> int, int -> int -> int"},
		{"?0 -> ?1", "(cell ?1 -> ?1) -> int -> int -> int", "cell (int -> int -> int) -> int -> int -> int, int -> int -> int"}, // 12 nodes
		{"?0 -> ?1", "(cell ?1 -> cell ?1) -> int -> int -> int", "ErrLong"},                                                     // 13 nodes
		{"?0 -> ?1 -> ?2", "(?1 -> ?1) -> (?2 -> ?2) -> ?3 -> ?3", "ErrLong"},
		{"(?0 -> ?1) -> int", "((?1 -> ?1) -> cell cell cell cell cell int) -> int", "ErrLong"},
		{"(?0 -> ?1) -> int", "((?1 -> ?1) -> cell cell cell cell cell int) -> bool", "ErrRule"},
		{"(?0 -> ?1) -> ?2", "((?1 -> ?1) -> ?2 -> ?2) -> ?3 -> ?0", "ErrRule"},
	} {
		l, e := kind.Unify(typeOf(t, c.a), typeOf(t, c.b))
		if got := printed(t, l, e); got != c.want {
			t.Errorf("Unify(%s, %s): %s, not %s", c.a, c.b, got, c.want)
		}
	}
}

// solvedBy returns a type with the types of a solution in place of its holes.
func solvedBy(list []api.TermType, k api.TermType) api.TermType {
	return filled(k, func(n int) api.TermType {
		if n < len(list) {
			return list[n]
		}
		return holeOf(n)
	})
}

// solvable reports whether two types have a solution, as the oracle has it.
func solvable(a, b api.TermType) bool {
	own := func(n int) api.TermType { return holeOf(1000 + n) }
	o := &oracle{}
	o.equal(filled(a, own), filled(b, own))
	_, is := o.solve(api.TermType{})
	return is
}

// P3.1: both types are equal with the solution, which has no hole that has a type; and it is a list up to the last one.
func TestUnifyMany(t *testing.T) {
	d := newDice(1)
	count := map[api.Errno]int{}
	for range 20000 {
		a, b := d.formedKind(4, 4), d.formedKind(4, 4)
		before := show(a) + show(b)
		l, e := kind.Unify(a, b)
		if show(a)+show(b) != before {
			t.Fatal("an argument was changed")
		}
		if (e == api.ErrRule) == solvable(a, b) {
			t.Fatal(show(a), show(b), e)
		}
		count[e]++
		if e != api.OK {
			continue
		}
		if !same(solvedBy(l, a), solvedBy(l, b)) || len(l) > 0 && same(l[len(l)-1], holeOf(len(l)-1)) {
			t.Fatal(show(a), show(b), show(l))
		}
		for n, k := range l {
			if !same(solvedBy(l, k), k) || k.Sort == api.TypeHole && k.N > n {
				t.Fatal(show(a), show(b), show(l))
			}
		}
	}
	if count[api.OK] < 2000 || count[api.ErrRule] < 2000 {
		t.Error("the dice are not good", count)
	}
}

// torn returns a type with holes for some of its parts; a hole that there is stands for a part that is equal to its own.
func (d dice) torn(k api.TermType, holes []api.TermType) api.TermType {
	if d.Intn(3) == 0 {
		var fit []int
		for n, x := range holes {
			if same(x, k) {
				fit = append(fit, n)
			}
		}
		if len(fit) > 0 {
			return holeOf(pick(d, fit))
		}
	}
	out := api.TermType{Sort: k.Sort, N: k.N, Text: k.Text}
	for _, part := range k.Parts {
		out.Parts = append(out.Parts, d.torn(part, holes))
	}
	return out
}

// partsOf returns a type and its parts.
func partsOf(k api.TermType) []api.TermType {
	out := []api.TermType{k}
	for _, part := range k.Parts {
		out = append(out, partsOf(part)...)
	}
	return out
}

// P3.1: what makes two types equal is a special case of the solution.
func TestUnifyMostGeneral(t *testing.T) {
	d := newDice(2)
	for range 10000 {
		k := d.formedKind(4, 2)
		proposed := []api.TermType{holeOf(0), holeOf(1)} // with these as they are
		for range 1 + d.Intn(6) {
			proposed = append(proposed, pick(d, partsOf(k)))
		}
		a, b := d.torn(k, proposed), d.torn(k, proposed)
		l, e := kind.Unify(a, b)
		if e != api.OK {
			t.Fatal(show(a), show(b), e)
		}
		for n, x := range l {
			if !same(solvedBy(proposed, x), proposed[n]) {
				t.Fatal(show(a), show(b), show(l), show(proposed))
			}
		}
	}
}

// P3.1: a hole of the first type stands for any type, the same one each time; holes of the second one are types as others are.
func TestInstance(t *testing.T) {
	for _, c := range []struct {
		a, b string
		want bool
	}{
		{"?0 -> ?0", "int -> int", true}, {"?0 -> ?0", "int -> bool", false}, {"int", "?0", false},
		{"?0", "int", true}, {"?0", "?0", true}, {"?0", "?1", true}, {"?5", "?0 -> ?1", true}, {"?0", "cell ?0", true}, {"?0 -> ?1", "?1 -> ?0", true}, {"?0 -> ?1", "?3 -> ?3", true}, {"?0 -> ?0", "?0 -> ?1", false}, {"?0 -> ?0", "?1 -> ?1", true}, {"?0 -> ?0", "?0 -> cell ?0", false},
		{"?0 -> ?0", "(?1 -> int) -> ?1 -> int", true}, {"?0 -> ?0", "(?1 -> int) -> ?2 -> int", false}, {"?0 -> int", "?0 -> ?0", false}, {"?0 -> ?1 -> ?0", "int -> ?0 -> int", true}, {"?0 -> ?1 -> ?0", "int -> ?0 -> ?0", false},
		{"cell ?0", "cell int", true}, {"cell ?0", "chan int", false}, {"task ?9", "task List", true}, {"List", "List", true}, {"List", "Box", false}, {"int", "int", true}, {"int", "bool", false}, {"unit", "unit", true}, {"int -> ?0", "int", false}, {"?0 -> ?1", "int", false}, {"?1 -> ?1 -> ?0", "?0 -> ?0 -> ?1", true},
		{"?99 -> ?0", "?0 -> ?99", true}, {"?0 -> ?99 -> ?0", "?99 -> ?99 -> ?0", false},
	} {
		if is, e := kind.Instance(typeOf(t, c.a), typeOf(t, c.b)); is != c.want || e != api.OK {
			t.Errorf("Instance(%s, %s): %v %d", c.a, c.b, is, e)
		}
	}
}

// isInstance reports whether b is a with some types in place of its holes, as the tests have it.
func isInstance(a, b api.TermType, holes map[int]string) bool {
	if a.Sort == api.TypeHole {
		if known, met := holes[a.N]; met {
			return known == show(b)
		}
		holes[a.N] = show(b)
		return true
	}
	return a.Sort == b.Sort && a.Text == b.Text && slices.EqualFunc(a.Parts, b.Parts, func(x, y api.TermType) bool { return isInstance(x, y, holes) })
}

func TestInstanceMany(t *testing.T) {
	d := newDice(3)
	yes := 0
	for range 20000 {
		a, b := d.formedKind(3, 3), d.formedKind(3, 3)
		if k := filled(a, func(n int) api.TermType { return []api.TermType{b, holeOf(n + 1), made(api.TypeInt)}[n%3] }); d.Intn(2) == 0 && term.CheckType(k) == api.OK {
			b = k
		}
		is, e := kind.Instance(a, b)
		if is != isInstance(a, b, map[int]string{}) || e != api.OK {
			t.Fatal(show(a), show(b), is, e)
		}
		if is {
			yes++
		}
	}
	if yes < 5000 || yes > 15000 {
		t.Error("the dice are not good", yes)
	}
}
