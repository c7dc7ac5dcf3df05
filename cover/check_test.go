package cover_test

import (
	"slices"
	"testing"

	"hearth/api"
	"hearth/cover"
)

// shop is data types with all sorts of types in their constructors.
const shop = "type Void = Void(Void); type Opt = None | Some(Void); type Box = Box(int -> Opt, cell int, chan bool); type Mix = Empty | Pair(int, bool) | Unit(unit, Box, Mix) | Task(task Mix);"

// P4.1: the chapter's cases, and others that are as defined.
func TestCheck(t *testing.T) {
	for _, c := range []api.CoverCase{caseA(t), caseB(t), caseC(t)} {
		if e := cover.Check(c); e != api.OK {
			t.Error(show(c), e)
		}
	}
	for _, c := range []struct{ datas, kind, rows string }{
		{"", "int", ""}, {"", "int", "0; ~1; 2; x; _"}, {"", "bool", "true; false"}, {"", "unit", "()"}, {"", "int -> cell bool", "x; _"}, {"", "task unit", "_"},
		{shop, "Mix", "Empty; Pair(1, true); Unit((), Box(f, c, _), Unit(x, y, Task(z))); Unit(_, _, x); _"},
		{shop, "Void", "Void(Void(Void(x)))"}, {shop, "Mix -> Void", "f"}, {shop, "chan Opt", ""}, {shop, "Opt", "Some(Void(Void(_))); None; None"},
		{"type A = A | B; type B = C(A);", "B", "C(A); C(B)"}, // a data type and a constructor can have one name
		{"type A = A(B); type B = B(A);", "B", "B(A(B(A(x))))"},
		{"", "int", "1000000000; ~1000000000"},
	} {
		if e := cover.Check(caseOf(t, c.datas, c.kind, c.rows)); e != api.OK {
			t.Errorf("%q %q %q: %d", c.datas, c.kind, c.rows, e)
		}
	}
}

// P4.1: data types, types and rows that are not as defined.
func TestCheckErrors(t *testing.T) {
	for _, c := range []struct{ datas, kind, rows string }{
		{"type A = B; type A = C;", "int", ""}, {"type A = B | C | B;", "int", ""}, {"type A = B; type C = D | B;", "int", ""}, {"type A = B(C);", "int", ""}, {"type A = B(cell (int -> C));", "int", ""}, {"type A = B; type C = D(B);", "int", ""},
		{"", "A", ""}, {"type A = B;", "B", ""}, {"type A = B;", "cell (A -> B)", ""}, {"type A = B;", "task (C -> A)", "_"},
		{"", "int", "true"}, {"", "int", "()"}, {"", "bool", "1"}, {"", "bool", "()"}, {"", "unit", "false"}, {"", "unit", "0"}, {"", "int -> int", "1"}, {"", "cell int", "1"}, {"", "cell unit", "()"}, {"", "chan bool", "true"}, {"", "task int", "0"},
		{shop, "int", "None"}, {shop, "Opt", "1"}, {shop, "Opt", "Empty"}, {shop, "Opt", "Opt"}, {shop, "Opt", "Other"}, {shop, "Opt", "Some"}, {shop, "Opt", "None(x)"}, {shop, "Opt", "Some(x, y)"}, {shop, "Opt", "Some(None)"}, {shop, "Opt", "Some(1)"}, {shop, "Opt", "_; None; Some(Some(_))"}, {shop, "Opt -> Opt", "None"}, {shop, "cell Opt", "None"},
		{shop, "Mix", "Pair(true, 1)"}, {shop, "Mix", "Pair(1, x, y)"}, {shop, "Mix", "Unit((), Box(None, x, y), z)"}, {shop, "Mix", "Unit(x, y, Pair(1, 2))"}, {shop, "Mix", "Task(Empty)"}, {shop, "Mix", "Box(x, y, z)"},
		{"", "int", "1; 2; 3; 4; 5; 6"}, {"", "int", "_; _; _; _; _; _"},
	} {
		if e := cover.Check(caseOf(t, c.datas, c.kind, c.rows)); e != api.ErrArg {
			t.Errorf("%q %q %q: %d", c.datas, c.kind, c.rows, e)
		}
	}
}

// chain returns a pattern of "type L = N | D(L)" with so many nodes.
func chain(nodes int) api.TermPat {
	p := api.TermPat{Form: api.PatCon, Text: "N"}
	for range nodes - 1 {
		p = api.TermPat{Form: api.PatCon, Text: "D", Parts: []api.TermPat{p}}
	}
	return p
}

// P4.1: rows have at most CoverPats nodes together, and each one at most as many as a pattern; there are at most CoverRows.
func TestCheckCountsRows(t *testing.T) {
	for _, c := range []struct {
		rows []int // nodes of each one
		want api.Errno
	}{
		{nil, api.OK}, {[]int{12}, api.OK}, {[]int{13}, api.ErrArg}, {[]int{12, 12, 6}, api.OK}, {[]int{12, 12, 7}, api.ErrArg}, {[]int{6, 6, 6, 6, 6}, api.OK}, {[]int{6, 6, 7, 6, 6}, api.ErrArg}, {[]int{12, 12, 1, 1, 4}, api.OK}, {[]int{12, 12, 1, 1, 5}, api.ErrArg}, {[]int{12, 12, 12}, api.ErrArg}, {[]int{1, 1, 1, 1, 1}, api.OK}, {[]int{1, 1, 1, 1, 1, 1}, api.ErrArg},
	} {
		k := caseOf(t, "type L = N | D(L);", "L", "")
		for _, nodes := range c.rows {
			k.Rows = append(k.Rows, chain(nodes))
		}
		if e := cover.Check(k); e != c.want {
			t.Error(c.rows, e)
		}
	}
}

// P4.1: Is, by the chapter, and for each form of values at each type.
func TestIs(t *testing.T) {
	for _, c := range []struct {
		c    api.CoverCase
		v    string
		want bool
	}{
		{caseA(t), "Node(Leaf, 5, Leaf)", true}, {caseA(t), "Node(Leaf, Leaf, 5)", false}, {caseA(t), "5", false}, {caseA(t), "Leaf", true}, {caseA(t), "Leaf(1)", false}, {caseA(t), "Node(Leaf, 5)", false}, {caseA(t), "Node", false}, {caseA(t), "Tree", false}, {caseA(t), "f", false}, {caseA(t), "Node(Node(Leaf, 1, Leaf), 2, Node(Leaf, ~3, Node(Leaf, true, Leaf)))", false}, {caseA(t), "Node(Node(Leaf, 1, Leaf), 2, Node(Leaf, ~3, Node(Leaf, 4, Leaf)))", true},
		{caseC(t), "Some(Void(Void(Void(f))))", false}, {caseC(t), "Some(None)", false}, {caseC(t), "None", true}, {caseC(t), "Void(f)", false},
		{caseOf(t, shop, "Mix", ""), "Unit((), Box(f, f, f), Task(f))", true}, {caseOf(t, shop, "Mix", ""), "Unit((), Box(f, 1, f), Task(f))", false}, {caseOf(t, shop, "Mix", ""), "Unit((), f, Task(f))", false}, {caseOf(t, shop, "Mix", ""), "Task(Empty)", false}, {caseOf(t, shop, "Mix", ""), "Pair(1, true)", true}, {caseOf(t, shop, "Mix", ""), "Pair(true, 1)", false}, {caseOf(t, shop, "Mix", ""), "Box(f, f, f)", false},
	} {
		if is, e := cover.Is(c.c, valOf(t, c.v)); is != c.want || e != api.OK {
			t.Error(c.v, is, e)
		}
	}
	kinds := map[string]string{"int": "3", "bool": "false", "unit": "()", "Opt": "None", "int -> int": "f", "cell int": "f", "chan Opt": "f", "task unit": "f"}
	for kind, own := range kinds {
		for _, v := range []string{"3", "false", "()", "None", "f"} {
			if is, e := cover.Is(caseOf(t, shop, kind, ""), valOf(t, v)); is != (v == own) || e != api.OK {
				t.Error(kind, v, is, e)
			}
		}
	}
}

// ternary returns a value of "type L = N | C(L, L, L) | D(L)" with so many nodes.
func ternary(nodes int) api.CoverVal {
	switch {
	case nodes == 1:
		return conVal("N")
	case nodes < 4:
		return conVal("D", ternary(nodes-1))
	}
	part := (nodes - 1) / 3
	return conVal("C", ternary(part), ternary(part), ternary(nodes-1-2*part))
}

// tower returns a value of the same type with so much depth.
func tower(depth int) api.CoverVal {
	v := conVal("N")
	for range depth - 1 {
		v = conVal("D", v)
	}
	return v
}

// P4.1: values have at most CoverVals nodes, and CoverDepth depth.
func TestValuesOfAnySize(t *testing.T) {
	c := caseOf(t, "type L = N | C(L, L, L) | D(L);", "L", "C(_, _, D(_)); D(x); y")
	for i, s := range []struct {
		v    api.CoverVal
		want bool
	}{
		{ternary(20000), true}, {ternary(20001), false}, {ternary(19998), true}, {tower(100), true}, {tower(101), false}, {conVal("C", tower(99), tower(98), ternary(19700)), true}, {conVal("C", tower(99), tower(100), tower(1)), false}, {conVal("C", ternary(10000), ternary(9998), tower(1)), true}, {conVal("C", ternary(10000), ternary(9999), tower(1)), false},
	} {
		is, e := cover.Is(c, s.v)
		if is != s.want || (e == api.OK) != s.want || e != api.OK && e != api.ErrArg {
			t.Error(i, is, e)
		}
		row, e := cover.First(c, s.v)
		if want := slices.IndexFunc(c.Rows, func(p api.TermPat) bool { return fits(p, s.v) }); s.want && (row != want || e != api.OK) || !s.want && (row != 0 || e != api.ErrArg) {
			t.Error(i, row, want, e)
		}
		l, e := cover.Match(c, 2, s.v)
		if s.want && (e != api.OK || len(l) != 1 || nodesOf(l[0].Val) != nodesOf(s.v)) || !s.want && (e != api.ErrArg || len(l) > 0) {
			t.Error(i, len(l), e)
		}
	}
}

// P4.1: each field of a value, with what the other ones are.
func TestIsOfEachNode(t *testing.T) {
	c := caseOf(t, shop, "Mix", "")
	for form := api.CoverForm(-1); form <= 7; form++ {
		for _, n := range []int{-1 << 62, -api.TermMost - 1, -api.TermMost, -1, 0, 1, 2, api.TermMost, api.TermMost + 1, 1 << 62} {
			for _, text := range []string{"", "None", "Other", "none", "Longnames", "N1", "\xff"} {
				for parts := range 5 {
					v := api.CoverVal{Form: form, N: n, Text: text, Parts: slices.Repeat([]api.CoverVal{intVal(1)}, parts)}
					bare := text == "" && parts == 0
					good := map[api.CoverForm]bool{api.CoverInt: bare && n >= -1000000000 && n <= 1000000000, api.CoverBool: bare && (n == 0 || n == 1), api.CoverUnit: bare && n == 0, api.CoverElse: bare && n == 0, api.CoverCon: n == 0 && parts <= 3 && (text == "None" || text == "Other")}[form]
					for _, w := range []api.CoverVal{v, conVal("Task", v), conVal("Pair", intVal(1), v)} {
						is, e := cover.Is(c, w)
						if (e == api.OK) != good || e != api.OK && e != api.ErrArg || e != api.OK && is {
							t.Fatal(show(w), is, e)
						}
						if want := (&oracle{CoverCase: c}).valueIs(w, c.Type); good && is != want {
							t.Fatal(show(w), is, want)
						}
					}
				}
			}
		}
	}
}

// P4.1: values of many cases, and the same with a part of another type.
func TestIsOfMany(t *testing.T) {
	d := newDice(1)
	met := map[bool]int{}
	for range 1500 {
		c := d.cases()
		if e := cover.Check(c); e != api.OK {
			t.Fatal(show(c), e)
		}
		o := newOracle(c, 100)
		for _, v := range o.listed {
			if is, e := cover.Is(c, v); !is || e != api.OK {
				t.Fatal(show(c), written(v), is, e)
			}
		}
		if len(o.listed) == 0 {
			continue
		}
		v := d.other(c, pick(d, o.listed))
		is, e := cover.Is(c, v)
		if is != o.valueIs(v, c.Type) || e != api.OK {
			t.Fatal(show(c), written(v), is, e)
		}
		met[is]++
		wrong := api.ErrArg
		if is {
			wrong = api.OK
		}
		if n, e := cover.First(c, v); e != wrong && (e != api.ErrNone || !is) || e != api.OK && n != 0 {
			t.Fatal(show(c), written(v), n, e)
		}
	}
	if met[true] < 100 || met[false] < 100 {
		t.Error("few values of one kind:", met)
	}
}

// other returns a value with another part, of any type.
func (d dice) other(c api.CoverCase, v api.CoverVal) api.CoverVal {
	if len(v.Parts) > 0 && d.Intn(4) > 0 {
		v.Parts = slices.Clone(v.Parts)
		i := d.Intn(len(v.Parts))
		v.Parts[i] = d.other(c, v.Parts[i])
		return v
	}
	con := pick(d, pick(d, c.Datas).Cons)
	w := conVal(con.Name)
	for range d.Intn(len(con.Args) + 1) {
		w.Parts = append(w.Parts, intVal(d.Intn(3)))
	}
	return pick(d, []api.CoverVal{w, intVal(d.Intn(9)), {Form: api.CoverBool, N: d.Intn(2)}, {Form: api.CoverUnit}, {Form: api.CoverElse}})
}
