package cover_test

import (
	"fmt"
	"math/rand"
	"slices"
	"strconv"
	"strings"
	"testing"

	"hearth/api"
	"hearth/read"
	"hearth/term"
)

// Cases and values of the tests are written as sources of layer 2: rows with semicolons between them, a value as a term, any name for CoverElse.

func must[T any](t *testing.T, read func(string) (T, api.Errno), source string) T {
	t.Helper()
	x, e := read(source)
	if e != api.OK {
		t.Fatalf("%q: %d", source, e)
	}
	return x
}

func caseOf(t *testing.T, datas, kind, rows string) api.CoverCase {
	t.Helper()
	m := must(t, read.Module, "module m { "+datas+" fun f(x : "+kind+") : "+kind+" = x; }")
	c := api.CoverCase{Datas: m.Datas, Type: m.Funs[0].From}
	for _, s := range strings.Split(rows, ";") {
		if strings.TrimSpace(s) != "" {
			c.Rows = append(c.Rows, patOf(t, s))
		}
	}
	return c
}

func patOf(t *testing.T, source string) api.TermPat {
	t.Helper()
	return must(t, read.Term, "match x { "+source+" -> x }").Pats[0]
}

func valOf(t *testing.T, source string) api.CoverVal {
	t.Helper()
	return valOfTerm(must(t, read.Term, source))
}

func valOfTerm(u api.Term) api.CoverVal {
	v := api.CoverVal{Form: map[api.TermOp]api.CoverForm{api.TermInt: api.CoverInt, api.TermBool: api.CoverBool, api.TermUnit: api.CoverUnit, api.TermCon: api.CoverCon, api.TermName: api.CoverElse}[u.Op], N: u.N}
	if u.Op == api.TermCon {
		v.Text = u.Text
	}
	for _, k := range u.Kids {
		v.Parts = append(v.Parts, valOfTerm(k))
	}
	return v
}

// written writes a value as its source, "f" for CoverElse.
func written(v api.CoverVal) string {
	switch v.Form {
	case api.CoverInt:
		return strings.Replace(strconv.Itoa(v.N), "-", "~", 1)
	case api.CoverBool:
		return strconv.FormatBool(v.N == 1)
	case api.CoverUnit:
		return "()"
	case api.CoverElse:
		return "f"
	case api.CoverCon:
		var parts []string
		for _, p := range v.Parts {
			parts = append(parts, written(p))
		}
		if len(parts) > 0 {
			return v.Text + "(" + strings.Join(parts, ", ") + ")"
		}
		return v.Text
	}
	return show(v)
}

func errorText(e api.Errno) string {
	return map[api.Errno]string{api.ErrArg: "ErrArg", api.ErrLong: "ErrLong", api.ErrNone: "ErrNone", api.ErrRule: "ErrRule"}[e]
}

// valued writes a value that was returned, or the error, beside which there must be none.
func valued(v api.CoverVal, e api.Errno) string {
	if e == api.OK {
		return written(v)
	}
	if !same(v, api.CoverVal{}) {
		return errorText(e) + " and " + written(v)
	}
	return errorText(e)
}

// numbered writes a number that was returned, or the error, as above.
func numbered(n int, e api.Errno) string {
	if e == api.OK {
		return strconv.Itoa(n)
	}
	if n != 0 {
		return errorText(e) + " and " + strconv.Itoa(n)
	}
	return errorText(e)
}

// bound writes what names mean, or the error, as above.
func bound(l []api.CoverBind, e api.Errno) string {
	var out []string
	for _, b := range l {
		out = append(out, b.Name+" = "+written(b.Val))
	}
	if e != api.OK {
		out = append(out, errorText(e))
	}
	return strings.Join(out, ", ")
}

// show writes anything, in which nil and empty lists are the same.
func show(x any) string { return fmt.Sprintf("%+v", x) }

func same(a, b any) bool { return show(a) == show(b) }

func leaf(row int) api.CoverNode { return api.CoverNode{Row: row} }

// test returns a test of a place for heads that are written with commas between them.
func test(t *testing.T, path []int, heads string, kids ...api.CoverNode) api.CoverNode {
	t.Helper()
	n := api.CoverNode{Path: path, Kids: kids}
	for _, s := range strings.Split(heads, ",") {
		n.Heads = append(n.Heads, valOf(t, s))
	}
	return n
}

func intVal(n int) api.CoverVal { return api.CoverVal{Form: api.CoverInt, N: n} }

func conVal(s string, parts ...api.CoverVal) api.CoverVal {
	return api.CoverVal{Form: api.CoverCon, Text: s, Parts: parts}
}

func made(s api.TermSort, parts ...api.TermType) api.TermType {
	return api.TermType{Sort: s, Parts: parts}
}

func data(s string) api.TermType { return api.TermType{Sort: api.TypeData, Text: s} }

func nodesOf(v api.CoverVal) int {
	n := 1
	for _, p := range v.Parts {
		n += nodesOf(p)
	}
	return n
}

func treeNodes(t api.CoverNode) int {
	n := 1
	for _, k := range t.Kids {
		n += treeNodes(k)
	}
	return n
}

func patNodes(p api.TermPat) int {
	n := 1
	for _, q := range p.Parts {
		n += patNodes(q)
	}
	return n
}

// The cases A, B and C of the chapter.

const treeData = "type Tree = Leaf | Node(Tree, int, Tree);"

func caseA(t *testing.T) api.CoverCase {
	t.Helper()
	return caseOf(t, treeData, "Tree", "Node(Leaf, 0, x); Node(y, 1, _); Leaf")
}

func caseB(t *testing.T) api.CoverCase {
	t.Helper()
	return caseOf(t, "type Two = Two(bool, bool);", "Two", "Two(true, _); Two(_, true); Two(false, false); z")
}

func caseC(t *testing.T) api.CoverCase {
	t.Helper()
	return caseOf(t, "type Void = Void(Void); type Opt = None | Some(Void);", "Opt", "None")
}

// dice makes cases, values and trees that are the same in each run.
type dice struct{ *rand.Rand }

func newDice(seed int64) dice { return dice{rand.New(rand.NewSource(seed))} }

func pick[T any](d dice, l []T) T { return l[d.Intn(len(l))] }

// smallInts are the integers of the patterns and trees that dice makes: with one more behind them, values of others add nothing.
var smallInts = []int{0, 1, -1, 2}

// cases returns a case that is as defined.
func (d dice) cases() api.CoverCase {
	for {
		c := api.CoverCase{Datas: d.datas()}
		c.Type = d.kind(c.Datas)
		if d.Intn(4) > 0 {
			c.Type = data(pick(d, c.Datas).Name)
		}
		nodes, good := 0, true
		for range d.Intn(api.CoverRows + 1) {
			p := d.pat(c.Datas, c.Type, 1+d.Intn(3))
			nodes += patNodes(p)
			good = good && term.CheckPat(p) == api.OK
			c.Rows = append(c.Rows, p)
		}
		if good && nodes <= api.CoverPats {
			return c
		}
	}
}

func (d dice) datas() []api.TermData {
	out := make([]api.TermData, 1+d.Intn(3))
	for i := range out {
		out[i].Name = string([]byte{'A' + byte(i)})
	}
	for i := range out {
		for j := range 1 + d.Intn(3) {
			con := api.TermConDef{Name: string([]byte{'A' + byte(i), 'a' + byte(j)})}
			for range d.Intn(4) * d.Intn(2) {
				con.Args = append(con.Args, d.kind(out))
			}
			out[i].Cons = append(out[i].Cons, con)
		}
	}
	return out
}

func (d dice) kind(datas []api.TermData) api.TermType {
	k := data(pick(d, datas).Name)
	switch d.Intn(10) {
	case 0, 1:
		return made(api.TypeInt)
	case 2, 3:
		return made(api.TypeBool)
	case 4:
		return made(api.TypeUnit)
	case 5:
		return pick(d, []api.TermType{made(api.TypeFun, k, k), made(api.TypeCell, k), made(api.TypeChan, k), made(api.TypeTask, k)})
	}
	return k
}

// pat returns a pattern of a type. (It may have too many nodes.)
func (d dice) pat(datas []api.TermData, k api.TermType, depth int) api.TermPat {
	if depth == 0 || d.Intn(4) == 0 {
		if d.Intn(3) == 0 {
			return api.TermPat{Form: api.PatName, Text: string([]byte{'a' + byte(d.Intn(26)), 'a' + byte(d.Intn(26))})}
		}
		return api.TermPat{Form: api.PatAny}
	}
	switch k.Sort {
	case api.TypeInt:
		return api.TermPat{Form: api.PatInt, N: pick(d, smallInts)}
	case api.TypeBool:
		return api.TermPat{Form: api.PatBool, N: d.Intn(2)}
	case api.TypeUnit:
		return api.TermPat{Form: api.PatUnit}
	case api.TypeData:
		con := pick(d, consOf(datas, k))
		p := api.TermPat{Form: api.PatCon, Text: con.Name}
		for _, arg := range con.Args {
			p.Parts = append(p.Parts, d.pat(datas, arg, depth-1))
		}
		return p
	}
	return api.TermPat{Form: api.PatAny}
}

func consOf(datas []api.TermData, k api.TermType) []api.TermConDef {
	for _, d := range datas {
		if k.Sort == api.TypeData && d.Name == k.Text {
			return d.Cons
		}
	}
	return nil
}

func conOf(datas []api.TermData, k api.TermType, name string) (api.TermConDef, bool) {
	cons := consOf(datas, k)
	i := slices.IndexFunc(cons, func(c api.TermConDef) bool { return c.Name == name })
	if i < 0 {
		return api.TermConDef{}, false
	}
	return cons[i], true
}
