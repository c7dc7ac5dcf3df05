package bind_test

import (
	"slices"
	"testing"

	"hearth/api"
	"hearth/bind"
	"hearth/term"
)

// standIn returns a term that has the Op, the Kids and the Pats of a node, and its number, if terms have one.
func standIn(n api.BindNode) api.Term {
	t := api.Term{Op: n.Op, Kids: make([]api.Term, len(n.Kids)), Pats: make([]api.TermPat, len(n.Pats))}
	for i := range t.Kids {
		t.Kids[i].Op = api.TermUnit
	}
	for i := range t.Pats {
		t.Pats[i].Form = api.PatAny
	}
	switch n.Op {
	case api.TermName, api.TermFun, api.TermShift, api.TermLet:
		t.Text = "x"
	case api.TermCon:
		t.Text = "C"
	}
	if n.Op != api.TermName && n.Op != api.TermCon {
		t.N = n.N
	}
	return t
}

// standInPat returns the same for a pattern; a PatName is a PatAny there.
func standInPat(p api.BindProg, q api.TermPat, good *bool) api.TermPat {
	out := api.TermPat{Form: q.Form, N: q.N, Text: q.Text}
	*good = *good && q.Text == ""
	switch q.Form {
	case api.PatName:
		out.Form = api.PatAny
	case api.PatCon:
		out.Text, out.N = "C", 0
		*good = *good && q.N >= 0 && q.N < len(p.Cons) && len(q.Parts) == p.Cons[q.N].Args
	}
	for _, part := range q.Parts {
		out.Parts = append(out.Parts, standInPat(p, part, good))
	}
	return out
}

// formed is a second way to tell whether a program (without patterns that have no end) is formed: layer 1 is asked about each node.
func formed(p api.BindProg) bool {
	if len(p.Nodes) > 300 || len(p.Funs) < 1 || len(p.Cons) > 20 || p.Main < 0 || p.Main >= len(p.Funs) {
		return false
	}
	seen := map[string]bool{}
	for _, c := range p.Cons {
		seen[c.Name] = true
		if !term.Great(c.Name) || c.Args < 0 || c.Args > 3 {
			return false
		}
	}
	good := len(seen) == len(p.Cons)
	owners := slices.Clone(p.Funs)
	for i, n := range p.Nodes {
		good = good && term.Check(standIn(n)) == api.OK
		for _, kid := range n.Kids {
			good = good && kid > i
			owners = append(owners, kid)
		}
		for _, q := range n.Pats {
			in := standInPat(p, q, &good)
			good = good && term.CheckPat(in) == api.OK
		}
		switch n.Op {
		case api.TermName:
			good = good && n.N <= 29 && n.N >= -len(p.Funs)
		case api.TermCon:
			good = good && n.N >= 0 && n.N < len(p.Cons) && len(n.Kids) == p.Cons[n.N].Args
		}
	}
	slices.Sort(owners)
	for i, at := range owners {
		good = good && i == at
	}
	return good && len(owners) == len(p.Nodes)
}

// checkAs looks at what Check returns, and at what the second way says.
func checkAs(t *testing.T, what any, p api.BindProg, good bool) {
	t.Helper()
	want := api.ErrArg
	if good {
		want = api.OK
	}
	if e := bind.Check(p); e != want {
		t.Fatal(what, "Check:", e, show(p))
	}
	if formed(p) != good {
		t.Fatal(what, "the second way says otherwise", show(p))
	}
}

// P5.1: each Op has as many Kids as in terms.
func TestKidsOfOps(t *testing.T) {
	counts := map[api.TermOp]int{}
	for op, kids := range map[int][]api.TermOp{
		0: {api.TermInt, api.TermBool, api.TermUnit, api.TermName, api.TermChan, api.TermIn, api.TermPause},
		1: {api.TermFun, api.TermShift, api.TermCell, api.TermGet, api.TermSpawn, api.TermJoin, api.TermTake, api.TermReset, api.TermOut},
		2: {api.TermApply, api.TermAdd, api.TermSub, api.TermMul, api.TermLess, api.TermSame, api.TermPut, api.TermSend, api.TermLet},
		3: {api.TermIf},
	} {
		for _, k := range kids {
			counts[k] = op
		}
	}
	for op := api.TermOp(-1); op <= api.TermPause+2; op++ {
		for kids := range 8 {
			p := oneFun(node(op, 0))
			for i := range kids {
				p.Nodes[0].Kids = append(p.Nodes[0].Kids, i+1)
				p.Nodes = append(p.Nodes, node(api.TermUnit, 0))
			}
			count, plain := counts[op]
			checkAs(t, []int{int(op), kids}, p, plain && count == kids)
			p.Nodes[0].Pats = pats(pat(api.PatAny, 0))
			checkAs(t, []int{int(op), kids, 1}, p, op == api.TermMatch && kids == 2)
		}
	}
}

// P5.1: constructors have as many Kids as arguments, matches one more than patterns, of which there are 1 to 5.
func TestKidsOfConsAndMatches(t *testing.T) {
	cons := []api.BindCon{con("A", 0), con("B", 1), con("C", 2), con("D", 3)}
	for kids := range 8 {
		var below []api.BindNode
		var numbers []int
		for i := range kids {
			below = append(below, node(api.TermUnit, 0))
			numbers = append(numbers, i+1)
		}
		for n := -2; n < 6; n++ {
			p := withCons(oneFun(append([]api.BindNode{node(api.TermCon, n, numbers...)}, below...)...), cons...)
			checkAs(t, []int{n, kids}, p, n >= 0 && n < 4 && n == kids)
		}
		for count := range 8 {
			m := matching(make([]api.TermPat, count), numbers...)
			for i := range m.Pats {
				m.Pats[i].Form = api.PatAny
			}
			checkAs(t, []int{count, kids}, oneFun(append([]api.BindNode{m}, below...)...), count >= 1 && count <= 5 && kids == count+1)
		}
	}
}

// P5.1: what numbers nodes have.
func TestNumbersOfNodes(t *testing.T) {
	most := 1000000000
	for i, c := range []struct {
		op      api.TermOp
		good    []int
		bad     []int
		kidless bool
	}{
		{api.TermInt, []int{0, 1, -1, most, -most}, []int{most + 1, -most - 1, 1 << 62, -1 << 63}, true},
		{api.TermBool, []int{0, 1}, []int{2, -1, 1 << 62, -1 << 63}, true},
		{api.TermOut, []int{0, 1, 2, 3}, []int{4, -1, 1 << 62, -1 << 63}, false},
		{api.TermName, []int{0, 1, 29, -1, -2}, []int{30, -3, -4, 1 << 62, -1 << 63}, true}, // there are two functions
		{api.TermUnit, []int{0}, []int{1, -1}, true}, {api.TermChan, []int{0}, []int{1, -1}, true}, {api.TermIn, []int{0}, []int{1, -1}, true}, {api.TermPause, []int{0}, []int{1, -1}, true},
		{api.TermFun, []int{0}, []int{1, -1}, false}, {api.TermShift, []int{0}, []int{1, -1}, false}, {api.TermCell, []int{0}, []int{1, -1}, false}, {api.TermReset, []int{0}, []int{1, -1}, false},
	} {
		for _, n := range slices.Concat(c.good, c.bad) {
			p := api.BindProg{Nodes: []api.BindNode{node(c.op, n), node(api.TermUnit, 0)}, Funs: []int{0, 1}}
			if !c.kidless {
				p.Nodes[0].Kids = []int{2}
				p.Nodes = append(p.Nodes, node(api.TermUnit, 0))
			}
			checkAs(t, []int{i, n}, p, slices.Contains(c.good, n))
		}
	}
	for n := -1; n < 2; n++ {
		unit := node(api.TermUnit, 0)
		checkAs(t, n, oneFun(node(api.TermLet, n, 1, 2), unit, unit), n == 0)
		checkAs(t, n, oneFun(node(api.TermIf, n, 1, 2, 3), unit, unit, unit), n == 0)
		checkAs(t, n, oneFun(api.BindNode{Op: api.TermMatch, N: n, Kids: []int{1, 2}, Pats: pats(pat(api.PatUnit, 0))}, unit, unit), n == 0)
	}
}

// P5.1: patterns have numbers in place of names.
func TestPatterns(t *testing.T) {
	any, name, most := pat(api.PatAny, 0), pat(api.PatName, 0), 1000000000
	full := pat(api.PatCon, 3, any, any, any) // 4 nodes
	for i, c := range []struct {
		p    api.TermPat
		good bool
	}{
		{any, true}, {name, true}, {pat(api.PatUnit, 0), true}, {pat(api.PatAny, 1), false}, {pat(api.PatName, 1), false}, {pat(api.PatName, -1), false}, {pat(api.PatUnit, 1), false},
		{pat(api.PatInt, most), true}, {pat(api.PatInt, -most), true}, {pat(api.PatInt, most+1), false}, {pat(api.PatInt, -most-1), false}, {pat(api.PatBool, 0), true}, {pat(api.PatBool, 1), true}, {pat(api.PatBool, 2), false}, {pat(api.PatBool, -1), false},
		{pat(api.PatCon, 0), true}, {pat(api.PatCon, 1), false}, {pat(api.PatCon, 1, name), true}, {pat(api.PatCon, 0, name), false}, {pat(api.PatCon, 2, name, name), true}, {pat(api.PatCon, 2, name), false}, {pat(api.PatCon, 2, name, name, name), false},
		{pat(api.PatCon, 4), false}, {pat(api.PatCon, -1), false}, {pat(api.PatCon, 1<<62), false}, {pat(api.PatCon, 1, pat(api.PatCon, 1, pat(api.PatCon, 0))), true}, {pat(api.PatCon, 1, pat(api.PatCon, 1, pat(api.PatCon, 4))), false}, {pat(api.PatCon, 2, any, pat(api.PatName, 3)), false},
		{pat(0, 0), false}, {pat(7, 0), false}, {pat(-1, 0), false}, {pat(api.PatAny, 0, any), false}, {pat(api.PatName, 0, any), false}, {pat(api.PatInt, 0, any), false}, {pat(api.PatBool, 0, any), false}, {pat(api.PatUnit, 0, any), false},
		{api.TermPat{Form: api.PatName, Text: "x"}, false}, {api.TermPat{Form: api.PatCon, Text: "A"}, false}, {api.TermPat{Form: api.PatAny, Text: "x"}, false}, {pat(api.PatCon, 1, api.TermPat{Form: api.PatName, Text: "x"}), false},
		{pat(api.PatCon, 3, full, full, pat(api.PatCon, 2, any, any)), true}, // 12 nodes
		{pat(api.PatCon, 3, full, full, full), false},                        // 13
		{pat(api.PatCon, 3, full, pat(api.PatCon, 1, full), pat(api.PatCon, 0)), true},
	} {
		unit := node(api.TermUnit, 0)
		cons := []api.BindCon{con("A", 0), con("B", 1), con("C", 2), con("D", 3)}
		checkAs(t, i, withCons(oneFun(matching(pats(c.p), 1, 2), unit, unit), cons...), c.good)
		checkAs(t, i, withCons(oneFun(matching(pats(any, c.p), 1, 2, 3), unit, unit, unit), cons...), c.good)
	}
}

// P5.1: constructors have great names that differ, and 0 to 3 arguments; there are at most 20.
func TestConstructors(t *testing.T) {
	unit := node(api.TermUnit, 0)
	for i, c := range []struct {
		cons []api.BindCon
		good bool
	}{
		{nil, true}, {[]api.BindCon{con("A", 0), con("Abcdefgh", 3)}, true}, {[]api.BindCon{con("A", -1)}, false}, {[]api.BindCon{con("A", 4)}, false}, {[]api.BindCon{con("A", 1), con("A", 1)}, false}, {[]api.BindCon{con("A", 1), con("B", 1), con("A", 2)}, false},
		{[]api.BindCon{con("", 1)}, false}, {[]api.BindCon{con("a", 1)}, false}, {[]api.BindCon{con("Abcdefghi", 1)}, false}, {[]api.BindCon{con("A", 1), con("B1", 1)}, false}, {letters(20), true}, {letters(21), false}, {letters(26), false},
	} {
		checkAs(t, i, withCons(oneFun(unit), c.cons...), c.good)
	}
}

// letters returns constructors without arguments: A, B, and so on.
func letters(count int) []api.BindCon {
	var out []api.BindCon
	for i := range count {
		out = append(out, con(string(rune('A'+i)), 0))
	}
	return out
}

// units returns a program whose functions are so many nodes.
func units(count int) api.BindProg {
	return row(slices.Repeat([]api.BindNode{node(api.TermUnit, 0)}, count)...)
}

// P5.1: functions, main, and the limit of nodes.
func TestFunctions(t *testing.T) {
	p := func(main int, funs ...int) api.BindProg {
		return api.BindProg{Nodes: []api.BindNode{node(api.TermUnit, 0), node(api.TermUnit, 0)}, Funs: funs, Main: main}
	}
	for i, c := range []struct {
		p    api.BindProg
		good bool
	}{
		{api.BindProg{}, false}, {p(0, 0, 1), true}, {p(1, 0, 1), true}, {p(1, 1, 0), true}, {p(2, 0, 1), false}, {p(-1, 0, 1), false}, {p(0), false}, {p(0, 0), false}, {p(0, 0, 0), false}, {p(0, 0, 1, 1), false}, {p(0, 0, 2), false}, {p(0, 0, 1, 2), false}, {p(0, -1, 0, 1), false}, {p(1<<62, 0, 1), false}, {p(0, 0, 1<<62), false}, {p(0, 1, -1<<63), false},
		{units(300), true}, {units(301), false},
	} {
		checkAs(t, i, c.p, c.good)
	}
}

// P5.1: Kids have greater numbers, and each node belongs to one place.
func TestKids(t *testing.T) {
	unit := node(api.TermUnit, 0)
	for i, c := range []struct {
		p    api.BindProg
		good bool
	}{
		{oneFun(node(api.TermAdd, 0, 1, 2), unit, unit), true}, {oneFun(node(api.TermAdd, 0, 2, 1), unit, unit), true},
		{oneFun(node(api.TermAdd, 0, 1, 1), unit), false}, {oneFun(node(api.TermAdd, 0, 1, 1), unit, unit), false}, {oneFun(node(api.TermAdd, 0, 1, 3), unit, unit), false}, {oneFun(node(api.TermAdd, 0, 1, -1), unit, unit), false}, {oneFun(node(api.TermAdd, 0, 0, 1), unit, unit), false}, {oneFun(node(api.TermAdd, 0, 1, 1<<62), unit, unit), false},
		{oneFun(node(api.TermAdd, 0, 1, 2), unit, unit, unit), false},                                           // a node of no place
		{oneFun(node(api.TermAdd, 0, 1, 2), node(api.TermGet, 0, 3), node(api.TermGet, 0, 3), unit), false},     // a Kid of two
		{oneFun(node(api.TermAdd, 0, 1, 2), node(api.TermGet, 0, 2), node(api.TermGet, 0, 3), unit), false},     // a Kid of two, one above the other
		{oneFun(node(api.TermGet, 0, 0)), false},                                                                // its own Kid
		{oneFun(unit, node(api.TermGet, 0, 2), node(api.TermGet, 0, 1)), false},                                 // each other's
		{api.BindProg{Nodes: []api.BindNode{node(api.TermGet, 0, 1), unit}, Funs: []int{0, 1}}, false},          // a Kid, and a body
		{api.BindProg{Nodes: []api.BindNode{unit, node(api.TermGet, 0, 0)}, Funs: []int{1}}, false},             // a lesser number
		{api.BindProg{Nodes: []api.BindNode{node(api.TermGet, 0, 2), unit, unit}, Funs: []int{1, 0}}, true},     // a body between
		{api.BindProg{Nodes: []api.BindNode{node(api.TermGet, 0, 2), unit, unit}, Funs: []int{0}}, false},       // a body of none
		{api.BindProg{Nodes: []api.BindNode{unit, node(api.TermGet, 0, 2), unit}, Funs: []int{1, 0, 2}}, false}, // a Kid, and a third body
	} {
		checkAs(t, i, c.p, c.good)
	}
}

// change makes one random change, after which a program may be formed or not.
func (d dice) change(p api.BindProg) api.BindProg {
	p = deepCopy(p)
	i := d.Intn(len(p.Nodes))
	n := &p.Nodes[i]
	small := pick(d, []int{-1, 0, 1, 2, 3, d.Intn(12) - 6, 29, 30, 1000000001})
	switch d.Intn(11) {
	case 0:
		n.Op += api.TermOp(d.Intn(5) - 2)
	case 1, 2:
		n.N = small
	case 3:
		if len(n.Kids) > 0 {
			n.Kids[d.Intn(len(n.Kids))] = d.Intn(len(p.Nodes)+2) - 1
		}
	case 4:
		n.Kids = append(n.Kids, d.Intn(len(p.Nodes)+2))
	case 5:
		if j := d.Intn(len(p.Nodes)); len(n.Kids) > 0 && len(p.Nodes[j].Kids) > 0 { // still one place for each
			a, b := d.Intn(len(n.Kids)), d.Intn(len(p.Nodes[j].Kids))
			n.Kids[a], p.Nodes[j].Kids[b] = p.Nodes[j].Kids[b], n.Kids[a]
		}
	case 6:
		p.Funs[d.Intn(len(p.Funs))] = d.Intn(len(p.Nodes)+2) - 1
	case 7:
		p.Main = small
	case 8:
		if len(p.Cons) > 0 {
			p.Cons[d.Intn(len(p.Cons))] = pick(d, []api.BindCon{con("A", 1), con("Nil", 0), con("Cons", 3), con("New", 2)})
		}
	case 9, 10:
		if len(n.Pats) > 0 {
			q := &n.Pats[d.Intn(len(n.Pats))]
			for len(q.Parts) > 0 && d.Intn(2) == 0 {
				q = &q.Parts[d.Intn(len(q.Parts))]
			}
			*q = pick(d, []api.TermPat{pat(q.Form, small, q.Parts...), pat(api.TermForm(d.Intn(8)), q.N, q.Parts...), pat(q.Form, q.N, append(q.Parts, pat(api.PatAny, 0))...), {Form: q.Form, N: q.N, Text: "x", Parts: q.Parts}})
		}
	}
	return p
}

// P5.1: many programs, as they are, and with changes, against the second way.
func TestCheckOfMany(t *testing.T) {
	d := newDice(1)
	kinds := map[bool]int{}
	for range 3000 {
		p := d.prog(pick(d, []plan{few(), some(), open()}))
		checkAs(t, "a program", p, true)
		for range 4 {
			q := d.change(p)
			kinds[formed(q)]++
			checkAs(t, "a changed program", q, formed(q))
		}
	}
	if kinds[true] < 1000 || kinds[false] < 1000 {
		t.Error("the changes are all of one kind:", kinds)
	}
}
