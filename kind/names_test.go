package kind_test

import (
	"testing"

	"hearth/api"
	"hearth/kind"
	"hearth/term"
)

// P3.5: terms that are the same up to bound names have the same type.
func TestBoundNames(t *testing.T) {
	m := moduleOf(t, shop)
	for _, c := range [][2]string{
		{"fun x => fun y => x", "fun y => fun x => y"}, {"fun sum => sum", "fun x => x"}, {"match Nil { Cons(x, y) -> y | z -> z }", "match Nil { Cons(a, sum) -> sum | x -> x }"}, {"let x = 1 in shift k => k x", "let k = 1 in shift x => x k"}, {"fun x => x x", "fun a => a a"},
	} {
		if a, b := inferred(t, m, nil, termOf(t, c[0])), inferred(t, m, nil, termOf(t, c[1])); a != b {
			t.Errorf("%s: %s; %s: %s", c[0], a, c[1], b)
		}
	}
	d := newDice(6)
	for range 2000 {
		names := []api.KindName{{Name: "a", Type: d.formedKind(2, 2)}, {Name: "b", Type: d.formedKind(2, 2)}}
		u := d.formed(names, d.formedKind(2, 0), 2+d.Intn(5))
		if d.Intn(2) == 0 {
			u = d.changed(u)
		}
		v, _ := term.Canon(u)
		if a, b := inferred(t, m, names, u), inferred(t, m, names, v); a != b {
			t.Fatal(show(u), a, show(v), b)
		}
	}
}

// P3.5: a term in place of a name, whose most general type is the name's one, and whole.
func TestInPlaceOfNames(t *testing.T) {
	m, d := moduleOf(t, shop), newDice(7)
	done := 0
	for range 6000 {
		by := d.formed(nil, d.formedKind(2, 0), 1+d.Intn(3))
		k, e := kind.Infer(m, nil, by)
		if e != api.OK || len(holesIn(k)) > 0 {
			continue
		}
		names := []api.KindName{{Name: "a", Type: k}}
		u := d.formed(names, d.formedKind(2, 0), 2+d.Intn(4))
		v, e := term.Subst(u, "a", by)
		if e != api.OK {
			continue
		}
		if a, b := inferred(t, m, names, u), inferred(t, m, nil, v); a != b {
			t.Fatal(show(u), a, show(by), show(v), b)
		}
		done++
	}
	if done < 1000 {
		t.Error("the dice are not good", done)
	}
}
