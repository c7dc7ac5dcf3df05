package bind_test

import (
	"fmt"
	"math/rand"
	"slices"
	"strings"
	"testing"

	"hearth/api"
	"hearth/bind"
	"hearth/read"
)

// example is the module M of the chapter.
const example = `module m {
type L = Nil | Cons(int, L);
fun main(u : unit) : int = let x = 1 in sum (Cons(x, Nil));
fun sum(l : L) : int = match l { Nil -> 0 | Cons(h, t) -> h + sum t };
fun idle(x : int) : int -> int = fun y => x + y;
}`

// Short ways to write programs, terms and modules.

func node(op api.TermOp, n int, kids ...int) api.BindNode {
	return api.BindNode{Op: op, N: n, Kids: kids}
}

func named(n int) api.BindNode { return node(api.TermName, n) }

func matching(pats []api.TermPat, kids ...int) api.BindNode {
	return api.BindNode{Op: api.TermMatch, Kids: kids, Pats: pats}
}

// oneFun is a program with one function, whose body is the node 0.
func oneFun(nodes ...api.BindNode) api.BindProg {
	return api.BindProg{Nodes: nodes, Funs: []int{0}}
}

// row is a program of some functions, each of which is a node of its own.
func row(nodes ...api.BindNode) api.BindProg {
	p := api.BindProg{Nodes: nodes}
	for i := range nodes {
		p.Funs = append(p.Funs, i)
	}
	return p
}

func withCons(p api.BindProg, cons ...api.BindCon) api.BindProg {
	p.Cons = cons
	return p
}

func con(name string, args int) api.BindCon { return api.BindCon{Name: name, Args: args} }

func pat(form api.TermForm, n int, parts ...api.TermPat) api.TermPat {
	return api.TermPat{Form: form, N: n, Parts: parts}
}

func pats(l ...api.TermPat) []api.TermPat { return l }

func moduleOf(t *testing.T, source string) api.TermModule {
	t.Helper()
	m, e := read.Module(source)
	if e != api.OK {
		t.Fatalf("%s: no module (%d)", source, e)
	}
	return m
}

func boundOf(t *testing.T, source string) api.BindProg {
	t.Helper()
	p, e := bind.Bind(moduleOf(t, source))
	if e != api.OK {
		t.Fatalf("%s: cannot be bound (%d)", source, e)
	}
	return p
}

// mainWith returns a module with some types and functions, and a body of main.
func mainWith(parts, body string) string {
	return "module m {" + parts + "\nfun main(u : unit) : int = " + body + ";\n}"
}

// show writes any value: two values are equal just if their strings are. (Nil and empty lists are the same.)
func show(x any) string { return fmt.Sprintf("%+v", x) }

func same(a, b any) bool { return show(a) == show(b) }

func noProg(p api.BindProg) bool { return same(p, api.BindProg{}) }

// text writes a program without the numbers of its nodes: programs have equal texts just if they are alike but for these.
func text(p api.BindProg) string {
	out := []string{show(p.Main), show(p.Cons)}
	for _, body := range p.Funs {
		out = append(out, nodeText(p, body))
	}
	return strings.Join(out, "\n")
}

func nodeText(p api.BindProg, at int) string {
	n := p.Nodes[at]
	out := fmt.Sprint("(", int(n.Op), " ", n.N)
	for _, q := range n.Pats {
		out += " " + show(q)
	}
	for _, kid := range n.Kids {
		out += " " + nodeText(p, kid)
	}
	return out + ")"
}

// inOrder reports whether the nodes of a formed program are in order.
func inOrder(p api.BindProg) bool {
	next := 0
	var walk func(at int) bool
	walk = func(at int) bool {
		if at != next {
			return false
		}
		next++
		for _, kid := range p.Nodes[at].Kids {
			if !walk(kid) {
				return false
			}
		}
		return true
	}
	for _, body := range p.Funs {
		if !walk(body) {
			return false
		}
	}
	return next == len(p.Nodes)
}

// count counts the nodes of a pattern that have one of some forms.
func count(p api.TermPat, forms ...api.TermForm) int {
	n := 0
	if slices.Contains(forms, p.Form) {
		n++
	}
	for _, q := range p.Parts {
		n += count(q, forms...)
	}
	return n
}

func names(p api.TermPat) int { return count(p, api.PatName) }

// dice throws programs and modules; the same ones in each run.
type dice struct{ *rand.Rand }

func newDice(seed int64) dice { return dice{rand.New(rand.NewSource(seed))} }

func pick[T any](d dice, list []T) T { return list[d.Intn(len(list))] }

// plan is what random programs are like.
type plan struct {
	funs, depth int
	closed      bool
	wide        bool // also with integers, ports and patterns of all sizes
}

// tree is a node with its Kids below it.
type tree struct {
	api.BindNode
	below []*tree
}

// prog returns a formed program, its nodes in any order that is allowed.
func (d dice) prog(k plan) api.BindProg {
	for {
		p := api.BindProg{Cons: d.cons()}
		var trees []*tree
		for range 1 + d.Intn(k.funs) {
			trees = append(trees, nil)
		}
		for i := range trees {
			trees[i] = d.tree(k, p.Cons, len(trees), 1, 1+d.Intn(k.depth))
		}
		p.Main = d.Intn(len(trees))
		if d.number(&p, trees); len(p.Nodes) <= api.BindNodes {
			return p
		}
	}
}

// cons returns constructors whose names, and arguments, are those of other programs, too.
func (d dice) cons() []api.BindCon {
	all := []api.BindCon{con("Nil", 0), con("Cons", 2), con("A", 0), con("Bcdefghi", 1), con("Three", 3), con("Two", 2)}
	if d.Intn(10) == 0 {
		all[pick(d, []int{1, 3, 5})].Args--
	}
	d.Shuffle(len(all), func(i, j int) { all[i], all[j] = all[j], all[i] })
	return all[:d.Intn(len(all)+1)]
}

// number gives nodes numbers in any order in which a node comes before its Kids.
func (d dice) number(p *api.BindProg, trees []*tree) {
	numbers := map[*tree]int{}
	var met []*tree
	for pool := slices.Clone(trees); len(pool) > 0; {
		i := d.Intn(len(pool))
		x := pool[i]
		pool = slices.Delete(pool, i, i+1)
		pool = append(pool, x.below...)
		numbers[x] = len(met)
		met = append(met, x)
	}
	for _, x := range met {
		for _, kid := range x.below {
			x.Kids = append(x.Kids, numbers[kid])
		}
		p.Nodes = append(p.Nodes, x.BindNode)
	}
	for _, x := range trees {
		p.Funs = append(p.Funs, numbers[x])
	}
}

// tree returns the nodes of a term, with so many values in the environment.
func (d dice) tree(k plan, cons []api.BindCon, funs, env, depth int) *tree {
	if depth == 1 || d.Intn(6) == 0 {
		return d.leaf(k, cons, funs, env)
	}
	x := &tree{}
	add := func(more ...int) {
		for _, m := range more {
			x.below = append(x.below, d.tree(k, cons, funs, env+m, depth-1))
		}
	}
	two := []api.TermOp{api.TermApply, api.TermAdd, api.TermSub, api.TermMul, api.TermLess, api.TermSame, api.TermPut, api.TermSend}
	one := []api.TermOp{api.TermCell, api.TermGet, api.TermSpawn, api.TermJoin, api.TermTake, api.TermReset}
	switch d.Intn(9) {
	case 0, 1:
		x.Op = pick(d, two)
		add(0, 0)
	case 2:
		x.Op = pick(d, one)
		add(0)
	case 3:
		x.Op = pick(d, []api.TermOp{api.TermFun, api.TermShift})
		add(1)
	case 4:
		x.Op = api.TermLet
		add(0, 1)
	case 5:
		x.Op = api.TermIf
		add(0, 0, 0)
	case 6:
		x.Op, x.N = api.TermOut, d.Intn(api.TermPorts)
		add(0)
	case 7:
		if len(cons) == 0 {
			return d.leaf(k, cons, funs, env)
		}
		x.Op, x.N = api.TermCon, d.Intn(len(cons))
		add(make([]int, cons[x.N].Args)...)
	case 8:
		x.Op = api.TermMatch
		add(0)
		for range 1 + d.Intn(3) {
			q := d.pat(k, cons, 3)
			x.Pats = append(x.Pats, q)
			add(names(q))
		}
	}
	return x
}

func (d dice) leaf(k plan, cons []api.BindCon, funs, env int) *tree {
	x := &tree{}
	switch d.Intn(8) {
	case 0:
		x.Op, x.N = api.TermInt, d.integer(k)
	case 1:
		x.Op, x.N = api.TermBool, d.Intn(2)
	case 2:
		x.Op = pick(d, []api.TermOp{api.TermUnit, api.TermChan, api.TermIn, api.TermPause})
	case 3, 4:
		x.Op, x.N = api.TermName, -1-d.Intn(funs)
	default:
		x.Op, x.N = api.TermName, d.Intn(min(env, api.MeanVals))
		if !k.closed {
			x.N = d.Intn(api.MeanVals)
		}
	}
	return x
}

func (d dice) integer(k plan) int {
	if k.wide && d.Intn(3) == 0 {
		return pick(d, []int{-api.TermMost, api.TermMost, 1 - api.TermMost})
	}
	return d.Intn(4)
}

// pat returns a formed pattern of some depth at most.
func (d dice) pat(k plan, cons []api.BindCon, depth int) api.TermPat {
	for {
		if p := d.anyPat(k, cons, depth); count(p, api.PatAny, api.PatName, api.PatInt, api.PatBool, api.PatUnit, api.PatCon) <= api.TermPats {
			return p
		}
	}
}

func (d dice) anyPat(k plan, cons []api.BindCon, depth int) api.TermPat {
	switch d.Intn(7) {
	case 0:
		return pat(api.PatAny, 0)
	case 1:
		return pat(api.PatInt, d.integer(k))
	case 2:
		return pat(api.PatBool, d.Intn(2))
	case 3:
		return pat(api.PatUnit, 0)
	case 4, 5:
		if depth == 1 || len(cons) == 0 {
			break
		}
		p := pat(api.PatCon, d.Intn(len(cons)))
		for range cons[p.N].Args {
			p.Parts = append(p.Parts, d.anyPat(k, cons, depth-1))
		}
		return p
	}
	return pat(api.PatName, 0)
}

// few, some and many are programs of different sizes.
func few() plan { return plan{funs: 4, depth: 4, closed: true} }

func some() plan { return plan{funs: 5, depth: 6, closed: true, wide: true} }

func open() plan { return plan{funs: 5, depth: 6, wide: true} }
