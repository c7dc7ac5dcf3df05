package kind_test

import (
	"fmt"
	"maps"
	"math/rand"
	"slices"
	"strings"
	"testing"

	"hearth/api"
	"hearth/kind"
	"hearth/read"
	"hearth/term"
)

// Terms, types and modules of the tests are written as sources of layer 2.

func must[T any](t *testing.T, read func(string) (T, api.Errno), source string) T {
	t.Helper()
	x, e := read(source)
	if e != api.OK {
		t.Fatalf("%q: %d", source, e)
	}
	return x
}

func termOf(t *testing.T, source string) api.Term { t.Helper(); return must(t, read.Term, source) }

func typeOf(t *testing.T, source string) api.TermType { t.Helper(); return must(t, read.Type, source) }

func moduleOf(t *testing.T, source string) api.TermModule {
	t.Helper()
	return must(t, read.Module, source)
}

// typesOf returns types that are written with commas between them.
func typesOf(t *testing.T, source string) []api.TermType {
	t.Helper()
	var out []api.TermType
	for _, s := range strings.Split(source, ",") {
		out = append(out, typeOf(t, s))
	}
	return out
}

// namesOf returns names with types, as in "c : ?0, d : int -> bool".
func namesOf(t *testing.T, source string) []api.KindName {
	t.Helper()
	var out []api.KindName
	for _, s := range strings.Split(source, ",") {
		if name, k, written := strings.Cut(s, ":"); written {
			out = append(out, api.KindName{Name: strings.TrimSpace(name), Type: typeOf(t, k)})
		}
	}
	return out
}

// example is the module of the chapter, where main returns a type.
func example(t *testing.T, to string) api.TermModule {
	t.Helper()
	return moduleOf(t, `module m {
type List = Nil | Cons(int, List);
fun sum(l : List) : int = match l { Nil -> 0 | Cons(x, r) -> x + sum r };
fun main(u : unit) : `+to+` = let c = cell(Nil) in let x = put(c, Cons(input, get(c))) in out(1, sum (get(c)));
}`)
}

// show writes any value, in which nil and empty lists are the same.
func show(x any) string { return fmt.Sprintf("%+v", x) }

func same(a, b any) bool { return show(a) == show(b) }

func errorText(e api.Errno) string {
	return map[api.Errno]string{api.ErrArg: "ErrArg", api.ErrLong: "ErrLong", api.ErrNone: "ErrNone", api.ErrRule: "ErrRule"}[e]
}

// printed writes types with commas between them, or an error, beside which there must be nothing.
func printed(t *testing.T, types []api.TermType, e api.Errno) string {
	t.Helper()
	if e != api.OK {
		if len(types) > 0 {
			t.Errorf("%v beside the error %d", types, e)
		}
		return errorText(e)
	}
	var out []string
	for _, k := range types {
		s, e := read.PrintType(k)
		if e != api.OK {
			t.Errorf("%v is not formed", k)
		}
		out = append(out, s)
	}
	return strings.Join(out, ", ")
}

// inferred returns the type that Infer returns, as it is printed, or its error.
func inferred(t *testing.T, m api.TermModule, names []api.KindName, u api.Term) string {
	t.Helper()
	k, e := kind.Infer(m, names, u)
	if e != api.OK && same(k, api.TermType{}) {
		return errorText(e)
	}
	return printed(t, []api.TermType{k}, e)
}

func holeOf(n int) api.TermType { return api.TermType{Sort: api.TypeHole, N: n} }

func made(s api.TermSort, parts ...api.TermType) api.TermType {
	return api.TermType{Sort: s, Parts: parts}
}

func arrow(a, b api.TermType) api.TermType { return made(api.TypeFun, a, b) }

func data(s string) api.TermType { return api.TermType{Sort: api.TypeData, Text: s} }

// filled returns a type with what a function says in place of its holes.
func filled(k api.TermType, in func(int) api.TermType) api.TermType {
	if k.Sort == api.TypeHole {
		return in(k.N)
	}
	out := api.TermType{Sort: k.Sort, N: k.N, Text: k.Text}
	for _, part := range k.Parts {
		out.Parts = append(out.Parts, filled(part, in))
	}
	return out
}

// holesIn returns the numbers of the holes in a type, from left to right, each as often as it stands there.
func holesIn(k api.TermType) []int {
	if k.Sort == api.TypeHole {
		return []int{k.N}
	}
	var out []int
	for _, part := range k.Parts {
		out = append(out, holesIn(part)...)
	}
	return out
}

// dice throws types and terms; the same ones in each run.
type dice struct{ *rand.Rand }

func newDice(seed int64) dice { return dice{rand.New(rand.NewSource(seed))} }

func pick[T any](d dice, list []T) T { return list[d.Intn(len(list))] }

// kind returns a type of some depth at most, with holes that are less than a number.
func (d dice) kind(depth, holes int) api.TermType {
	if depth == 1 || d.Intn(4) == 0 {
		if holes > 0 && d.Intn(2) == 0 {
			return holeOf(d.Intn(holes))
		}
		return pick(d, []api.TermType{made(api.TypeInt), made(api.TypeInt), made(api.TypeBool), made(api.TypeUnit), data("List"), data("Box")})
	}
	if d.Intn(2) == 0 {
		return arrow(d.kind(depth-1, holes), d.kind(depth-1, holes))
	}
	return made(pick(d, []api.TermSort{api.TypeCell, api.TypeChan, api.TypeTask}), d.kind(depth-1, holes))
}

func (d dice) formedKind(depth, holes int) api.TermType {
	for {
		if k := d.kind(depth, holes); term.CheckType(k) == api.OK {
			return k
		}
	}
}

// Random terms stand in a module with these parts.
const shop = `module shop {
type List = Nil | Cons(int, List);
type Box = Box(int -> bool, cell int) | Empty;
fun sum(l : List) : int = 1;
fun open(b : Box) : int -> bool = fun x => true;
fun main(u : unit) : unit = ();
}`

// leaf returns a small term of a type.
func (d dice) leaf(k api.TermType) api.Term {
	part := func(i int) api.Term { return d.leaf(k.Parts[i]) }
	switch k.Sort {
	case api.TypeInt:
		return pick(d, []api.Term{{Op: api.TermInt, N: d.Intn(5)}, {Op: api.TermIn}})
	case api.TypeBool:
		return api.Term{Op: api.TermBool, N: d.Intn(2)}
	case api.TypeUnit:
		return api.Term{Op: pick(d, []api.TermOp{api.TermUnit, api.TermPause})}
	case api.TypeFun:
		return bind(api.TermFun, d.word(), part(1))
	case api.TypeCell:
		return node(api.TermCell, part(0))
	case api.TypeTask:
		return node(api.TermSpawn, bind(api.TermFun, d.word(), part(0)))
	case api.TypeChan:
		return node(api.TermChan)
	}
	switch k.Text {
	case "List":
		return bind(api.TermCon, "Nil")
	case "Box":
		return bind(api.TermCon, "Empty")
	}
	return bind(api.TermShift, d.word(), d.leaf(made(api.TypeInt))) // it has every type
}

func node(op api.TermOp, kids ...api.Term) api.Term { return api.Term{Op: op, Kids: kids} }

func bind(op api.TermOp, s string, kids ...api.Term) api.Term {
	return api.Term{Op: op, Text: s, Kids: kids}
}

func (d dice) word() string { return pick(d, []string{"a", "b", "c", "x"}) }

// typed returns a term of a type, with names that have types.
func (d dice) typed(in []api.KindName, k api.TermType, depth int) api.Term {
	if n, has := d.named(in, k); has && d.Intn(2) == 0 {
		return n
	}
	if depth <= 1 {
		return d.leaf(k)
	}
	some := func(k api.TermType) api.Term { return d.typed(in, k, depth-1) }
	under := func(s string, t, k api.TermType) api.Term {
		return d.typed(append(slices.Clip(in), api.KindName{Name: s, Type: t}), k, depth-1)
	}
	other, w, number := d.kind(2, 0), d.word(), made(api.TypeInt)
	switch d.Intn(14) {
	case 0:
		return node(api.TermIf, some(made(api.TypeBool)), some(k), some(k))
	case 1:
		return bind(api.TermLet, w, some(other), under(w, other, k))
	case 2, 3:
		return node(api.TermApply, some(arrow(other, k)), some(other))
	case 4:
		return node(api.TermGet, some(made(api.TypeCell, k)))
	case 5:
		return node(api.TermTake, some(made(api.TypeChan, k)))
	case 6:
		return node(api.TermJoin, some(made(api.TypeTask, k)))
	case 7:
		return bind(api.TermShift, w, under(w, arrow(k, number), number))
	case 8:
		t := node(api.TermMatch, some(data("List")), some(k), d.typed(append(slices.Clip(in), api.KindName{Name: "x", Type: number}, api.KindName{Name: "b", Type: data("List")}), k, depth-1))
		t.Pats = []api.TermPat{{Form: api.PatCon, Text: "Nil"}, {Form: api.PatCon, Text: "Cons", Parts: []api.TermPat{{Form: api.PatName, Text: "x"}, {Form: api.PatName, Text: "b"}}}}
		return t
	case 9:
		t := node(api.TermMatch, some(number), some(k), under(w, number, k))
		t.Pats = []api.TermPat{{Form: api.PatInt, N: 3}, {Form: api.PatName, Text: w}}
		return t
	}
	return d.own(k, other, w, some, under)
}

// own returns a term of a type, with an Op that has just types of this sort.
func (d dice) own(k, other api.TermType, w string, some func(api.TermType) api.Term, under func(string, api.TermType, api.TermType) api.Term) api.Term {
	number := made(api.TypeInt)
	switch k.Sort {
	case api.TypeInt:
		return pick(d, []api.Term{node(pick(d, []api.TermOp{api.TermAdd, api.TermSub, api.TermMul}), some(k), some(k)), node(api.TermReset, some(k)), node(api.TermApply, bind(api.TermName, "sum"), some(data("List")))})
	case api.TypeBool:
		return pick(d, []api.Term{node(api.TermLess, some(number), some(number)), node(api.TermSame, some(number), some(number)), node(api.TermSame, some(k), some(k)), node(api.TermSame, some(made(api.TypeUnit)), some(made(api.TypeUnit)))})
	case api.TypeUnit:
		return pick(d, []api.Term{{Op: api.TermOut, N: 1, Kids: []api.Term{some(number)}}, node(api.TermPut, some(made(api.TypeCell, other)), some(other)), node(api.TermSend, some(made(api.TypeChan, other)), some(other))})
	case api.TypeFun:
		return bind(api.TermFun, w, under(w, k.Parts[0], k.Parts[1]))
	case api.TypeCell:
		return node(api.TermCell, some(k.Parts[0]))
	case api.TypeTask:
		return node(api.TermSpawn, some(arrow(made(api.TypeUnit), k.Parts[0])))
	case api.TypeData:
		if k.Text == "Box" {
			return bind(api.TermCon, "Box", some(arrow(number, made(api.TypeBool))), some(made(api.TypeCell, number)))
		}
		return bind(api.TermCon, "Cons", some(number), some(k))
	}
	return d.leaf(k)
}

// named returns a name of a type, if there is one.
func (d dice) named(in []api.KindName, k api.TermType) (api.Term, bool) {
	last := map[string]api.TermType{}
	for _, n := range in {
		last[n.Name] = n.Type
	}
	var fit []string
	for _, s := range slices.Sorted(maps.Keys(last)) {
		if same(last[s], k) {
			fit = append(fit, s)
		}
	}
	if len(fit) == 0 {
		return api.Term{}, false
	}
	return bind(api.TermName, pick(d, fit)), true
}

// formed returns a formed term of a type, with names that hide no function.
func (d dice) formed(in []api.KindName, k api.TermType, depth int) api.Term {
	for {
		if t := d.typed(in, k, depth); term.Check(t) == api.OK {
			return t
		}
	}
}

// changed returns a term with another part somewhere, which seldom has the type of the one that stood there.
func (d dice) changed(t api.Term) api.Term {
	for {
		var path []int
		for at := t; len(at.Kids) > 0 && d.Intn(4) > 0; {
			i := d.Intn(len(at.Kids))
			path = append(path, i)
			at = at.Kids[i]
		}
		part := d.leaf(d.kind(2, 0))
		if d.Intn(2) == 0 {
			part = bind(api.TermName, pick(d, []string{"a", "b", "c", "x", "sum", "open", "none"}))
		}
		if u, e := term.Put(t, path, part); e == api.OK {
			return u
		}
	}
}
