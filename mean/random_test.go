package mean_test

import (
	"fmt"
	"slices"
	"strings"
	"testing"

	"hearth/api"
	"hearth/bind"
	"hearth/mean"
	"hearth/read"
)

// named is a name that has a type.
type named struct{ name, kind string }

// writer writes sources of terms that have types.
type writer struct {
	dice
	next int // the number of the next name
	odd  int // one of so many terms has another type than the one that is asked for; 0: none
}

// kinds are the types of terms that a writer looks for first.
func kinds() []string {
	return []string{"int", "int", "int", "bool", "unit", "List", "int -> int", "unit -> int", "cell int", "chan int", "task int", "cell (int -> int)", "chan List"}
}

func (d *writer) name() string {
	d.next++
	return "v" + string(rune('a'+d.next/26%26)) + string(rune('a'+d.next%26))
}

// term returns a term of a type, of some depth at most.
func (d *writer) term(kind string, in []named, depth int) string {
	if d.odd > 0 && d.Intn(d.odd) == 0 {
		kind = pick(d.dice, kinds()...)
	}
	var known []string
	for _, n := range in {
		if n.kind == kind {
			known = append(known, n.name)
		}
	}
	if len(known) > 0 && d.Intn(3) == 0 {
		return pick(d.dice, known...)
	}
	if depth > 1 && d.Intn(3) == 0 {
		return "(" + d.compound(kind, in, depth-1) + ")"
	}
	return d.own(kind, in, depth-1)
}

// compound returns a term that can have any type.
func (d *writer) compound(kind string, in []named, depth int) string {
	x, y := d.name(), d.name()
	term := func(kind string, more ...named) string {
		return d.term(kind, slices.Concat(in, more), depth)
	}
	switch d.Intn(13) {
	case 0:
		return "if " + term("bool") + " then " + term(kind) + " else " + term(kind)
	case 1:
		return "match " + term("List") + " { Nil -> " + term(kind) + " | Cons(" + x + ", " + y + ") -> " + term(kind, named{x, "int"}, named{y, "List"}) + " }"
	case 2:
		return "match " + term("int") + " { 0 -> " + term(kind) + " | " + x + " -> " + term(kind, named{x, "int"}) + " }"
	case 3:
		return "match " + term("bool") + " { true -> " + term(kind) + " }"
	case 4:
		other := pick(d.dice, kinds()...)
		return "(fun " + x + " => " + term(kind, named{x, other}) + ") " + term(other)
	case 5:
		if kind == "int" || kind == "unit" {
			return "shift " + x + " => " + term("int", named{x, kind + " -> int"})
		}
	case 6:
		return "let " + x + " = chan in let " + y + " = send(" + x + ", " + term("int") + ") in " + term(kind, named{x, "chan int"})
	case 7:
		return "let " + x + " = chan in let " + y + " = spawn(fun " + y + " => send(" + x + ", " + term("unit") + ")) in let " + y + " = take(" + x + ") in " + term(kind, named{y, "unit"})
	case 8:
		return "let " + x + " = chan in let " + y + " = spawn(fun " + y + " => send(" + x + ", " + term("List") + ")) in " + term(kind, named{x, "chan List"}, named{y, "task unit"})
	case 9:
		return "let " + x + " = cell(" + term("int") + ") in let " + y + " = spawn(fun " + y + " => " + term("int", named{x, "cell int"}) + ") in " + term(kind, named{x, "cell int"}, named{y, "task int"})
	case 10:
		return "let " + x + " = cell(" + term("int") + ") in let " + y + " = put(" + x + ", " + term("int") + ") in let " + y + " = out(3, get(" + x + ")) in " + term(kind, named{x, "cell int"})
	}
	other := pick(d.dice, kinds()...)
	return "let " + x + " = " + term(other) + " in " + term(kind, named{x, other})
}

// own returns a term that can have this type alone.
func (d *writer) own(kind string, in []named, depth int) string {
	x := d.name()
	term := func(kind string, more ...named) string {
		return d.term(kind, slices.Concat(in, more), depth)
	}
	if from, to, is := strings.Cut(kind, " -> "); is && !strings.Contains(kind, "(") {
		return "(fun " + x + " => " + d.term(to, append(slices.Clip(in), named{x, from}), depth) + ")"
	}
	form, inner, _ := strings.Cut(kind, " ")
	inner = strings.Trim(inner, "()")
	switch {
	case form == "chan":
		return "chan"
	case depth <= 0:
		return map[string]string{"int": pick(d.dice, "1", "0", "~3", "999999999", "input"), "bool": pick(d.dice, "true", "false"), "unit": pick(d.dice, "()", "pause"), "List": "(Nil)", "task": "spawn(main)", "cell": "cell(" + d.least(inner) + ")"}[form]
	case form == "cell":
		return "cell(" + term(inner) + ")"
	case form == "task":
		return "spawn(" + term("unit -> int") + ")"
	case form == "List":
		return pick(d.dice, "(Nil)", "(Cons("+term("int")+", "+term("List")+"))", "take("+term("chan List")+")")
	case form == "bool":
		return "(" + pick(d.dice, term("int")+" < "+term("int"), term("int")+" == "+term("int"), term("unit")+" == "+term("unit"), term("bool")+" == "+term("bool")) + ")"
	case form == "unit":
		other := pick(d.dice, "int", "int -> int")
		return pick(d.dice, "pause", fmt.Sprint("out(", d.Intn(4), ", ", term("int"), ")"), "put("+term("cell "+bracketed(other))+", "+term(other)+")", "send("+term("chan int")+", "+term("int")+")", "send("+term("chan List")+", "+term("List")+")")
	}
	return pick(d.dice, "input", "(f "+term("int")+")", fmt.Sprint(d.Intn(4)), "("+term("int")+pick(d.dice, " + ", " - ", " * ")+term("int")+")", "get("+term("cell int")+")", "take("+term("chan int")+")", "join("+term("task int")+")", "reset("+term("int")+")", "("+term("int -> int")+" "+term("int")+")", "(get("+term("cell (int -> int)")+") "+term("int")+")")
}

// least returns a small term of a type.
func (d *writer) least(kind string) string {
	if kind == "int" {
		return "1"
	}
	return "fun x => x"
}

func bracketed(kind string) string {
	if strings.Contains(kind, " ") {
		return "(" + kind + ")"
	}
	return kind
}

// module returns a module; one of so many of its terms has another type than it should have, or none.
func (d dice) module(t *testing.T, odd int) api.TermModule {
	t.Helper()
	for {
		x := &writer{dice: d, odd: odd}
		funs := []named{{"f", "int -> int"}, {"main", "unit -> int"}}
		source := "module m { type List = Nil | Cons(int, List); "
		for _, f := range funs {
			from, to, _ := strings.Cut(f.kind, " -> ")
			source += "fun " + f.name + "(a : " + from + ") : " + to + " = " + x.term(to, append(slices.Clip(funs), named{"a", from}), 5) + "; "
		}
		m, e := read.Module(source + "}")
		if e == api.ErrText {
			t.Fatal(source, "is no source")
		}
		if e == api.OK {
			return m
		}
	}
}

// prog returns a program: most of them have types, others do not, or are not closed.
func (d dice) prog(t *testing.T) api.BindProg {
	t.Helper()
	for {
		p, e := bind.Bind(d.module(t, pick(d, 0, 0, 30, 8)))
		if e != api.OK {
			t.Fatal("cannot be bound:", e)
		}
		if d.Intn(10) == 0 {
			at := d.Intn(len(p.Nodes))
			if p.Nodes[at].Op == api.TermName {
				p.Nodes[at].N = d.Intn(8) - 2
			}
		}
		return p
	}
}

func (d dice) ins() []int {
	var out []int
	for range d.Intn(6) {
		out = append(out, d.Intn(5)-2)
	}
	return out
}

func (d dice) picks(most int) []int {
	var out []int
	for range 1 + d.Intn(most) {
		out = append(out, d.Intn(12)-4)
	}
	return out
}

// shaken returns a world with other values at some places, as far as it is as defined.
func (d dice) shaken(p api.BindProg, w api.MeanWorld) api.MeanWorld {
	for {
		v := deepCopy(w)
		eachVal(v, func(x *api.MeanVal) {
			if d.Intn(6) == 0 {
				*x = pick(d, in(d.Intn(3)), in(api.TermMost), is(d.Intn(2)), un(), code(d.Intn(len(p.Funs))), ref(d.Intn(len(v.Objs))), ref(d.Intn(len(v.Objs))))
			}
		})
		for i, o := range v.Objs {
			if o.Form == api.MeanTask && d.Intn(10) == 0 {
				v.Objs[i] = pick(d, obj(api.MeanTask, api.MeanLoose), obj(api.MeanTask, api.MeanDone, un()), goes(frame(d.Intn(len(p.Nodes)), vals(un(), in(1)), nil)))
			}
		}
		if mean.Check(p, v) == api.OK {
			return v
		}
	}
}
