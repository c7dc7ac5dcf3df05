package term_test

import (
	"slices"
	"testing"

	"hearth/api"
	"hearth/term"
)

// form is what a node has to have: Kids, N and Text from the first to the last, or of the sort, and Pats only of a match.
type form struct {
	least, most int
	low, high   int
	text        string
}

// forms is the table of the document.
func forms() map[api.TermOp]form {
	out := map[api.TermOp]form{
		api.TermInt:   {low: -1000000000, high: 1000000000},
		api.TermBool:  {high: 1},
		api.TermName:  {text: "name"},
		api.TermFun:   {least: 1, most: 1, text: "name"},
		api.TermShift: {least: 1, most: 1, text: "name"},
		api.TermLet:   {least: 2, most: 2, text: "name"},
		api.TermIf:    {least: 3, most: 3},
		api.TermCon:   {most: 3, text: "great"},
		api.TermOut:   {least: 1, most: 1, high: 3},
		api.TermMatch: {least: 2, most: 6},
	}
	for _, op := range []api.TermOp{api.TermUnit, api.TermChan, api.TermIn, api.TermPause} {
		out[op] = form{}
	}
	for _, op := range []api.TermOp{api.TermApply, api.TermAdd, api.TermSub, api.TermMul, api.TermLess, api.TermSame, api.TermPut, api.TermSend} {
		out[op] = form{least: 2, most: 2}
	}
	for _, op := range []api.TermOp{api.TermCell, api.TermGet, api.TermSpawn, api.TermJoin, api.TermTake, api.TermReset} {
		out[op] = form{least: 1, most: 1}
	}
	return out
}

// sorts are texts, and which of the sorts they are of.
func sorts() map[string]string {
	return map[string]string{"": "", "x": "name", "abcdefgh": "name", "X": "great", "let": "none", "xX": "none", "abcdefghi": "none"}
}

func numbers() []int {
	return []int{-1 << 62, -1000000001, -1000000000, -2, -1, 0, 1, 2, 3, 4, 5, 99, 100, 1000000000, 1000000001, 1 << 62}
}

// P1.2: each Op with each number of Kids and Pats, each N and each Text.
func TestCheckOfEachNode(t *testing.T) {
	table := forms()
	for op := api.TermOp(-2); op < 34; op++ {
		f, known := table[op]
		for text, sort := range sorts() {
			for _, n := range numbers() {
				for kids := range 8 {
					for pats := range 7 {
						u := api.Term{Op: op, N: n, Text: text, Kids: slices.Repeat([]api.Term{num(1)}, kids), Pats: slices.Repeat([]api.TermPat{pat("y")}, pats)}
						good := known && sort == f.text && n >= f.low && n <= f.high && kids >= f.least && kids <= f.most
						if op == api.TermMatch {
							good = good && kids == pats+1
						} else {
							good = good && pats == 0
						}
						want := api.ErrArg
						if good {
							want = api.OK
						}
						if e := term.Check(u); e != want {
							t.Fatalf("Op %d N %d Text %q Kids %d Pats %d: %d, not %d", op, n, text, kids, pats, e, want)
						}
					}
				}
			}
		}
	}
	if len(table) != 28 {
		t.Fatal("the table has", len(table), "Ops")
	}
}

// P1.2: how many nodes, and how much depth.
func TestCheckSizes(t *testing.T) {
	for nodes := 1; nodes <= 64; nodes++ {
		want := api.OK
		if nodes > 60 {
			want = api.ErrArg
		}
		if e := term.Check(wide(nodes)); e != want || len(paths(wide(nodes))) != nodes {
			t.Error(nodes, "nodes:", e)
		}
	}
	for depth := 1; depth <= 17; depth++ {
		want := api.OK
		if depth > 14 {
			want = api.ErrArg
		}
		for _, u := range []api.Term{deep(depth, num(1)), plus(num(1), deep(depth-1, num(1))), plus(deep(depth-1, num(1)), num(1))} {
			if e := term.Check(u); depth > 1 && e != want {
				t.Error("depth", depth, e)
			}
		}
	}
	// Patterns are no nodes, and have no depth.
	p := con("A", pat("a"), pat("b"), con("B", pat("c"), pat("d"), con("C", pat("e"), pat("f"), pat("g"))))
	if e := term.Check(match(wide(58), row{p, num(1)})); e != api.OK {
		t.Error("a match of 60 nodes with a pattern of 10:", e)
	}
	if e := term.Check(match(wide(59), row{p, num(1)})); e != api.ErrArg {
		t.Error("a match of 61 nodes:", e)
	}
}

// P1.2: a part that is not formed, wherever it stands.
func TestCheckParts(t *testing.T) {
	good := match(fun("x", plus(name("x"), num(1))), row{pat("y"), let("z", num(1), node(api.TermIf, name("y"), name("z"), num(2)))}, row{api.TermPat{Form: api.PatAny}, num(3)})
	for _, p := range paths(good) {
		u := clone(good)
		at := &u
		for _, i := range p {
			at = &at.Kids[i]
		}
		if e := term.Check(u); e != api.OK {
			t.Fatal(e)
		}
		at.Op = 0
		if e := term.Check(u); e != api.ErrArg {
			t.Error(p, e)
		}
	}
	for i := range good.Pats {
		u := clone(good)
		u.Pats[i] = api.TermPat{Form: api.PatBool, N: 2}
		if e := term.Check(u); e != api.ErrArg {
			t.Error("pattern", i, e)
		}
	}
	// Two patterns of a match may have the same names, one pattern not.
	for i, c := range []struct {
		t    api.Term
		want api.Errno
	}{
		{match(num(1), row{pat("x"), name("x")}, row{pat("x"), name("x")}), api.OK},
		{match(num(1), row{con("A", pat("x"), pat("x")), name("x")}), api.ErrArg},
		{node(api.TermGet, match(num(1), row{con("a"), num(1)})), api.ErrArg},
	} {
		if e := term.Check(c.t); e != c.want {
			t.Error(i, e)
		}
	}
}

// P1.2: each Form with each number of Parts, each N and each Text.
func TestCheckOfEachPattern(t *testing.T) {
	table := map[api.TermForm]form{api.PatAny: {}, api.PatName: {text: "name"}, api.PatInt: {low: -1000000000, high: 1000000000}, api.PatBool: {high: 1}, api.PatUnit: {}, api.PatCon: {most: 3, text: "great"}}
	for op := api.TermForm(-2); op < 10; op++ {
		f, known := table[op]
		for text, sort := range sorts() {
			for _, n := range numbers() {
				for parts := range 6 {
					p := api.TermPat{Form: op, N: n, Text: text, Parts: slices.Repeat([]api.TermPat{{Form: api.PatAny}}, parts)}
					want := api.ErrArg
					if known && sort == f.text && n >= f.low && n <= f.high && parts <= f.most {
						want = api.OK
					}
					if e := term.CheckPat(p); e != want {
						t.Fatalf("Form %d N %d Text %q Parts %d: %d, not %d", op, n, text, parts, e, want)
					}
				}
			}
		}
	}
}

// chain returns a pattern of so many nodes.
func chain(nodes int) api.TermPat {
	p := api.TermPat{Form: api.PatAny}
	for range nodes - 1 {
		p = con("A", p)
	}
	return p
}

// P1.2: patterns as wholes: their nodes, their names, their Parts.
func TestCheckPat(t *testing.T) {
	for nodes := 1; nodes <= 15; nodes++ {
		want := api.OK
		if nodes > 12 {
			want = api.ErrArg
		}
		if e := term.CheckPat(chain(nodes)); e != want {
			t.Error(nodes, "nodes:", e)
		}
		if e := term.Check(match(num(1), row{chain(nodes), num(1)})); e != want {
			t.Error(nodes, "nodes in a match:", e)
		}
	}
	for i, p := range []api.TermPat{
		con("A", pat("a"), pat("b"), con("B", pat("c"), con("A", pat("d")))), con("A", con("A", con("A"))), con("A", api.TermPat{Form: api.PatAny}, api.TermPat{Form: api.PatAny}),
		con("A", chain(3), chain(4), chain(4)),
	} {
		if e := term.CheckPat(p); e != api.OK {
			t.Error(i, e)
		}
	}
	for i, p := range []api.TermPat{
		con("A", pat("a"), pat("a")), con("A", pat("a"), con("B", con("C", pat("b"), pat("a")))), con("A", con("B", pat("a")), con("B", pat("a"))),
		con("A", api.TermPat{}), con("A", con("B"), con("b")), con("A", num0("x"), pat("b")), con("A", chain(4), chain(4), chain(4)),
	} {
		if e := term.CheckPat(p); e != api.ErrArg {
			t.Error(i, e)
		}
	}
}

// num0 is a PatInt with a Text, which is not formed.
func num0(s string) api.TermPat { return api.TermPat{Form: api.PatInt, Text: s} }

// P1.2: each Sort with each number of Parts, each N and each Text.
func TestCheckOfEachType(t *testing.T) {
	table := map[api.TermSort]form{api.TypeInt: {}, api.TypeBool: {}, api.TypeUnit: {}, api.TypeFun: {least: 2, most: 2}, api.TypeCell: {least: 1, most: 1}, api.TypeChan: {least: 1, most: 1}, api.TypeTask: {least: 1, most: 1}, api.TypeData: {text: "great"}, api.TypeHole: {high: 99}}
	for op := api.TermSort(-2); op < 13; op++ {
		f, known := table[op]
		for text, sort := range sorts() {
			for _, n := range numbers() {
				for parts := range 5 {
					k := api.TermType{Sort: op, N: n, Text: text, Parts: slices.Repeat([]api.TermType{kind(api.TypeInt)}, parts)}
					want := api.ErrArg
					if known && sort == f.text && n >= f.low && n <= f.high && parts >= f.least && parts <= f.most {
						want = api.OK
					}
					if e := term.CheckType(k); e != want {
						t.Fatalf("Sort %d N %d Text %q Parts %d: %d, not %d", op, n, text, parts, e, want)
					}
				}
			}
		}
	}
}

// cells returns a type of so many nodes, with another type at its end.
func cells(nodes int, end api.TermType) api.TermType {
	for range nodes - 1 {
		end = kind(api.TypeCell, end)
	}
	return end
}

// P1.2: types as wholes: their nodes and their Parts.
func TestCheckType(t *testing.T) {
	integer := kind(api.TypeInt)
	for nodes := 1; nodes <= 15; nodes++ {
		want := api.OK
		if nodes > 12 {
			want = api.ErrArg
		}
		if e := term.CheckType(cells(nodes, integer)); e != want {
			t.Error(nodes, "nodes:", e)
		}
		if e := term.CheckType(kind(api.TypeFun, integer, cells(nodes-2, integer))); nodes > 2 && e != want {
			t.Error(nodes, "nodes with a function:", e)
		}
	}
	for i, k := range []api.TermType{cells(5, api.TermType{}), kind(api.TypeFun, api.TermType{}, integer), kind(api.TypeFun, integer, kind(api.TypeTask)), cells(3, api.TermType{Sort: api.TypeHole, N: 100})} {
		if e := term.CheckType(k); e != api.ErrArg {
			t.Error(i, e)
		}
	}
	if e := term.CheckType(kind(api.TypeFun, api.TermType{Sort: api.TypeHole}, api.TermType{Sort: api.TypeHole, N: 99})); e != api.OK {
		t.Error("holes:", e)
	}
}

// base returns a module with parts of each kind, changed.
func base(change func(m *api.TermModule)) api.TermModule {
	integer := kind(api.TypeInt)
	f := api.TermFunDef{Name: "main", Param: "u", From: kind(api.TypeUnit), To: integer, Body: num(1)}
	m := api.TermModule{
		Name:  "m",
		Datas: []api.TermData{{Name: "Tree", Cons: []api.TermConDef{{Name: "Leaf"}, {Name: "Node", Args: []api.TermType{integer, cells(12, integer)}}}}, {Name: "Box", Cons: []api.TermConDef{{Name: "Box"}}}},
		Funs:  []api.TermFunDef{f, f},
	}
	change(&m)
	return m
}

// P1.2: modules that are formed. That names differ is not asked here.
func TestCheckModule(t *testing.T) {
	for i, change := range []func(m *api.TermModule){
		func(m *api.TermModule) {},
		func(m *api.TermModule) { m.Datas = nil },
		func(m *api.TermModule) { m.Datas = slices.Repeat(m.Datas, 2) },
		func(m *api.TermModule) { m.Funs = m.Funs[:1] },
		func(m *api.TermModule) { m.Funs = slices.Repeat(m.Funs[:1], 5) },
		func(m *api.TermModule) { m.Datas[1].Cons = slices.Repeat(m.Datas[1].Cons, 5) },
		func(m *api.TermModule) { m.Datas[0].Cons[1].Args = slices.Repeat([]api.TermType{kind(api.TypeInt)}, 3) },
		func(m *api.TermModule) { m.Datas[0].Cons[1].Args[0] = api.TermType{Sort: api.TypeData, Text: "Other"} },
		func(m *api.TermModule) { m.Funs[1].Body = name("free") },
		func(m *api.TermModule) { m.Funs[1].Body = wide(60) },
		func(m *api.TermModule) { m.Name, m.Funs[0].Name, m.Funs[0].Param = "abcdefgh", "m", "main" },
	} {
		if e := term.CheckModule(base(change)); e != api.OK {
			t.Error(i, e)
		}
	}
}

// P1.2: modules that are not formed, for one reason each.
func TestCheckModuleRefuses(t *testing.T) {
	hole, bad := api.TermType{Sort: api.TypeHole}, api.TermType{}
	for i, change := range []func(m *api.TermModule){
		func(m *api.TermModule) { m.Name = "" },
		func(m *api.TermModule) { m.Name = "module" },
		func(m *api.TermModule) { m.Name = "M" },
		func(m *api.TermModule) { m.Datas = slices.Repeat(m.Datas[:1], 5) },
		func(m *api.TermModule) { m.Datas[0].Name = "tree" },
		func(m *api.TermModule) { m.Datas[1].Name = "" },
		func(m *api.TermModule) { m.Datas[1].Cons = nil },
		func(m *api.TermModule) { m.Datas[1].Cons = slices.Repeat(m.Datas[1].Cons, 6) },
		func(m *api.TermModule) { m.Datas[0].Cons[1].Name = "node" },
		func(m *api.TermModule) { m.Datas[1].Cons[0].Name = "" },
		func(m *api.TermModule) { m.Datas[0].Cons[1].Args = slices.Repeat([]api.TermType{kind(api.TypeInt)}, 4) },
		func(m *api.TermModule) { m.Datas[0].Cons[1].Args[0] = hole },
		func(m *api.TermModule) { m.Datas[0].Cons[1].Args[1] = cells(4, hole) },
		func(m *api.TermModule) { m.Datas[0].Cons[1].Args[1] = cells(13, kind(api.TypeInt)) },
		func(m *api.TermModule) { m.Datas[0].Cons[1].Args[1] = bad },
		func(m *api.TermModule) { m.Funs = nil },
		func(m *api.TermModule) { m.Funs = slices.Repeat(m.Funs, 3) },
		func(m *api.TermModule) { m.Funs[0].Name = "fun" },
		func(m *api.TermModule) { m.Funs[1].Name = "Main" },
		func(m *api.TermModule) { m.Funs[0].Param = "" },
		func(m *api.TermModule) { m.Funs[1].Param = "U" },
		func(m *api.TermModule) { m.Funs[0].From = bad },
		func(m *api.TermModule) { m.Funs[1].From = hole },
		func(m *api.TermModule) { m.Funs[0].To = bad },
		func(m *api.TermModule) { m.Funs[1].To = kind(api.TypeFun, kind(api.TypeInt), hole) },
		func(m *api.TermModule) { m.Funs[0].Body = api.Term{} },
		func(m *api.TermModule) { m.Funs[1].Body = wide(61) },
	} {
		if e := term.CheckModule(base(change)); e != api.ErrArg {
			t.Error(i, e)
		}
	}
	if e := term.CheckModule(api.TermModule{}); e != api.ErrArg {
		t.Error("the empty module:", e)
	}
}

// loops returns a term, a pattern and a type whose lists lie within themselves.
func loops() (api.Term, api.TermPat, api.TermType) {
	kids := make([]api.Term, 2)
	kids[0], kids[1] = plus(num(1), num(1)), api.Term{Op: api.TermAdd, Kids: kids}
	parts := make([]api.TermPat, 1)
	parts[0] = con("A", parts...)
	parts[0].Parts = parts
	inner := make([]api.TermType, 2)
	inner[0] = api.TermType{Sort: api.TypeFun, Parts: inner}
	inner[1] = inner[0]
	return api.Term{Op: api.TermAdd, Kids: kids}, parts[0], inner[0]
}

// P0.12: trees without an end, or with very many parts, are refused in time, by each function.
func TestTreesWithoutEnd(t *testing.T) {
	loop, pattern, typ := loops()
	double := num(1)
	for range 200 {
		double = plus(double, double)
	}
	many := api.Term{Op: api.TermCon, Text: "A", Kids: make([]api.Term, 1000000)}
	long := name(string(make([]byte, 1000000)))
	patterned := match(num(1), row{pattern, num(1)})
	for i, u := range []api.Term{loop, double, many, long, patterned, {}} {
		refused(t, i, u)
	}
	if e := term.CheckPat(pattern); e != api.ErrArg {
		t.Error(e)
	}
	if l, e := term.Names(pattern); e != api.ErrArg || len(l) > 0 {
		t.Error(l, e)
	}
	if e := term.CheckType(typ); e != api.ErrArg {
		t.Error(e)
	}
	for i, change := range []func(m *api.TermModule){
		func(m *api.TermModule) { m.Funs[1].To = typ },
		func(m *api.TermModule) { m.Datas[0].Cons[1].Args[1] = typ },
		func(m *api.TermModule) { m.Funs[0].Body = loop },
		func(m *api.TermModule) { m.Funs = make([]api.TermFunDef, 1000000) },
	} {
		if e := term.CheckModule(base(change)); e != api.ErrArg {
			t.Error(i, e)
		}
	}
}

// refused looks at whether each function refuses a term, with zero values beside the error.
func refused(t *testing.T, i int, u api.Term) {
	t.Helper()
	x := name("x")
	if e := term.Check(u); e != api.ErrArg {
		t.Error(i, "Check", e)
	}
	if n, e := term.Nodes(u); e != api.ErrArg || n != 0 {
		t.Error(i, "Nodes", n, e)
	}
	if n, e := term.Depth(u); e != api.ErrArg || n != 0 {
		t.Error(i, "Depth", n, e)
	}
	if l, e := term.Free(u); e != api.ErrArg || len(l) > 0 {
		t.Error(i, "Free", l, e)
	}
	for j, call := range []func() (api.Term, api.Errno){
		func() (api.Term, api.Errno) { return term.At(u, nil) },
		func() (api.Term, api.Errno) { return term.At(u, []int{0}) },
		func() (api.Term, api.Errno) { return term.Put(u, nil, x) },
		func() (api.Term, api.Errno) { return term.Put(x, nil, u) },
		func() (api.Term, api.Errno) { return term.Put(wide(60), []int{0}, u) },
		func() (api.Term, api.Errno) { return term.Subst(u, "x", x) },
		func() (api.Term, api.Errno) { return term.Subst(x, "x", u) },
		func() (api.Term, api.Errno) { return term.Subst(x, "y", u) },
		func() (api.Term, api.Errno) { return term.Canon(u) },
	} {
		if v, e := call(); e != api.ErrArg || !zero(v) {
			t.Error(i, "call", j, e)
		}
	}
	for _, pair := range [][2]api.Term{{u, x}, {x, u}, {u, u}} {
		if is, e := term.Alike(pair[0], pair[1]); e != api.ErrArg || is {
			t.Error(i, "Alike", is, e)
		}
	}
}
