package read_test

import (
	"slices"
	"strings"
	"testing"

	"hearth/api"
	"hearth/read"
)

// grammar is the table of the chapter, with what may be left out, or come again, as parts of their own. NAME, INT and GREAT are tokens of these kinds; GREAT( is a great name before a bracket, which always begins its own things.
var grammar = map[string][]string{
	"<term>":     {"fun NAME => <term>", "shift NAME => <term>", "let NAME = <term> in <term>", "if <term> then <term> else <term>", "<compared>"},
	"<compared>": {"<sum> <compare>"},
	"<compare>":  {"", "< <sum>", "== <sum>"},
	"<sum>":      {"<product> <sums>"},
	"<sums>":     {"", "+ <product> <sums>", "- <product> <sums>"},
	"<product>":  {"<applied> <products>"},
	"<products>": {"", "* <applied> <products>"},
	"<applied>":  {"<atom> <atoms>"},
	"<atoms>":    {"", "<atom> <atoms>"},
	"<atom>": {"INT", "true", "false", "( )", "( <term> )", "NAME", "GREAT", "GREAT( ( <term> <terms> )", "match <term> { <case> <cases> }", "cell ( <term> )", "get ( <term> )", "spawn ( <term> )", "join ( <term> )", "take ( <term> )", "reset ( <term> )",
		"put ( <term> , <term> )", "send ( <term> , <term> )", "out ( INT , <term> )", "chan", "input", "pause"},
	"<terms>":  {"", ", <term> <terms>"},
	"<case>":   {"<pat> -> <term>"},
	"<cases>":  {"", "| <case> <cases>"},
	"<pat>":    {"_", "NAME", "INT", "true", "false", "( )", "GREAT", "GREAT( ( <pat> <pats> )"},
	"<pats>":   {"", ", <pat> <pats>"},
	"<type>":   {"<simple> <arrow>"},
	"<arrow>":  {"", "-> <type>"},
	"<simple>": {"int", "bool", "unit", "GREAT", "cell <simple>", "chan <simple>", "task <simple>", "? INT", "( <type> )"},
	"<types>":  {"", ", <type> <types>"},
	"<module>": {"module NAME { <datas> <funs> }"},
	"<datas>":  {"", "type GREAT = <con> <cons> ; <datas>"},
	"<con>":    {"GREAT", "GREAT( ( <type> <types> )"},
	"<cons>":   {"", "| <con> <cons>"},
	"<funs>":   {"", "fun NAME ( NAME : <type> ) : <type> = <term> ; <funs>"},
}

// rules is the grammar, the parts of each rule from its end on.
var rules = func() map[string][][]string {
	out := map[string][][]string{}
	for part, list := range grammar {
		for _, rule := range list {
			parts := strings.Fields(rule)
			slices.Reverse(parts)
			out[part] = append(out[part], parts)
		}
	}
	return out
}()

// stacks are all that can still be asked for, with what is next at the end of each.
type stacks map[string][]string

// expand adds all stacks that a stack can become until a token, or nothing, is next.
func (s stacks) expand(stack []string) {
	if len(stack) == 0 || rules[stack[len(stack)-1]] == nil {
		s[strings.Join(stack, " ")] = stack
		return
	}
	rest := stack[:len(stack)-1]
	for _, rule := range rules[stack[len(stack)-1]] {
		s.expand(slices.Concat(rest, rule))
	}
}

// behind returns what is asked for behind a token.
func (s stacks) behind(class string) stacks {
	out := stacks{}
	for _, stack := range s {
		if len(stack) > 0 && stack[len(stack)-1] == class {
			out.expand(stack[:len(stack)-1])
		}
	}
	return out
}

// track is how far a module is read: what is asked for next, and what was before the last token.
type track struct {
	now, before stacks
	last        string
}

func newTrack() track {
	s := stacks{}
	s.expand([]string{"<module>"})
	return track{now: s}
}

// push reads one more token. What a great name is, is seen when the next token is.
func (t track) push(text string) track {
	class := text
	switch kindOf(text) {
	case api.ReadWord:
		class = "NAME"
	case api.ReadInt:
		class = "INT"
	case api.ReadGreat:
		class = "GREAT"
	}
	now := t.now
	if text == "(" && kindOf(t.last) == api.ReadGreat {
		now = t.before.behind("GREAT(")
	}
	return track{now.behind(class), now, text}
}

// stopOf returns what Stops should return for some tokens.
func stopOf(tokens []string) (int, api.Errno) {
	t := newTrack()
	for i, text := range tokens {
		if t = t.push(text); len(t.now) == 0 {
			return i, api.OK
		}
	}
	if _, whole := t.now[""]; whole {
		return 0, api.ErrNone
	}
	return len(tokens), api.OK
}

// P2.4: the first token that cannot follow, the number of all of them, or none.
func TestStops(t *testing.T) {
	f := "fun f(x : int) : int = "
	for source, want := range map[string]int{
		"module m { fun f(x : int) : int = x + ; }": 15, "module m {": 3, "module m { } x": 4, "fun": 0, "": 0, " //": 0, "module": 1, "module M": 1, "module m": 2, "module m }": 2, "module m { }}": 4, "module m { fun": 4, "module m { type": 4, "module m { type a": 4, "module m { type A (": 5, "module m { type A = B | ;": 8, "module m { type A = B( )": 8, "module m { type A = B; fun f": 10, "module m { x": 3,
		"module m { " + f + "x": 14, "module m { " + f + "x; type": 15, "module m { " + f + "x }": 14, "module m { " + f: 13, "module m { " + f + ";": 13, "module m { " + f + "a < b < c": 16, "module m { " + f + "a < b == c": 16, "module m { " + f + "a == b < c": 16, "module m { " + f + "f fun": 14, "module m { " + f + "put(x)": 16, "module m { " + f + "cell(x,": 16, "module m { " + f + "Leaf ()": 15, "module m { " + f + "(Leaf) ()": 18, "module m { " + f + "out(x": 15, "module m { " + f + "match x { }": 16, "module m { " + f + "match x { (a": 17, "module m { " + f + "f () )": 16, "module m { " + f + "chan () )": 16, "module m { " + f + "match x { Leaf ()": 18, "module m { fun f(x : A (": 9, "module m { fun f(x : cell)": 9, "module m { fun f(x : ?x": 9, "module m { fun f(x : int -> )": 10,
		"module m { " + f + "out(4, 1000000001": 18, "module m { fun f(x : ?100": 10, "module m { " + f + strings.Repeat("(", 7900): 7913,
	} {
		if n, e := read.Stops(source); e != api.OK || n != want {
			t.Errorf("%q: %d %d", source, n, e)
		}
	}
	for _, source := range []string{"module m { }", example, "module m { type A = B; }", "module m { " + f + "out(4, 1000000001); }", "module m { fun f(x : ?100) : int = Node(a, b, c, d); }", "module m { " + strings.Repeat("type A = B; ", 100) + strings.Repeat(f+"x;", 100) + "}"} {
		if n, e := read.Stops(source); e != api.ErrNone || n != 0 {
			t.Errorf("%q: %d %d", source, n, e)
		}
	}
	for _, source := range []string{"%", "module m { } %", "fun ~0", "x abcdefghi"} {
		if n, e := read.Stops(source); e != api.ErrText || n != 0 {
			t.Errorf("%q: %d %d", source, n, e)
		}
	}
}

// derive returns tokens that a part of the table is, the longer the more steps there are.
func (d dice) derive(part string, steps *int) []string {
	rules := grammar[part]
	switch {
	case part == "NAME":
		return []string{d.small()}
	case part == "INT":
		return []string{pick(d, []string{"0", "1", "2", "~5", "100", "9999999999"})}
	case part == "GREAT" || part == "GREAT(":
		return []string{d.great()}
	case rules == nil:
		return []string{part}
	}
	*steps--
	rule := pick(d, rules)
	if *steps < 0 {
		rule = map[string]string{"<term>": "<compared>", "<atom>": "NAME", "<pat>": "_", "<simple>": "int", "<con>": "GREAT"}[part]
		if rule == "" && rules[0] != "" {
			rule = rules[0]
		}
	}
	var out []string
	for _, x := range strings.Fields(rule) {
		out = append(out, d.derive(x, steps)...)
	}
	return out
}

// P2.4: many modules of the table, whole, cut off, and with a token too many, too few, or another one.
func TestStopsOfMany(t *testing.T) {
	d := newDice(4)
	check := func(tokens []string) {
		t.Helper()
		source := strings.Join(tokens, " ")
		if len(source) > api.ReadLong {
			return
		}
		n, e := read.Stops(source)
		want, f := stopOf(tokens)
		if n != want || e != f {
			t.Fatalf("%q: %d %d, not %d %d", source, n, e, want, f)
		}
		_, g := read.Module(source)
		if (g == api.OK || g == api.ErrArg) != (e == api.ErrNone) {
			t.Fatalf("%q: %d %d", source, e, g)
		}
	}
	others := append(append([]string{"a", "A", "0"}, keywords...), signs...)
	wholes := 0
	for range 600 {
		steps := 10 + d.Intn(40)
		tokens := d.derive("<module>", &steps)
		if len(tokens) > 80 {
			continue
		}
		if _, e := stopOf(tokens); e == api.ErrNone { // else a great name got a bracket that was none of its own
			wholes++
		}
		check(tokens)
		at := d.Intn(len(tokens))
		check(tokens[:at])
		cutOut := append(append([]string(nil), tokens[:at]...), tokens[at+1:]...)
		check(cutOut)
		for range 5 {
			other := append([]string(nil), tokens...)
			other[at] = pick(d, others)
			check(other)
			more := append(append(append([]string(nil), tokens[:at]...), pick(d, others)), tokens[at:]...)
			check(more)
		}
	}
	if wholes < 100 {
		t.Error(wholes)
	}
}

// P2.3: behind each begun term, each token that the table allows, and none else, is allowed.
func TestEachNextToken(t *testing.T) {
	all := append(append([]string{"a", "A", "0"}, keywords...), signs...)
	head := strings.Fields("module m { type A = B ( int , A ) | C ; fun f ( x : int -> cell A ) : ( ? 1 ) = if fun x => A ( x , 1 ) y < 2 then let a = out ( 1 , b ) in put ( a , b ) else match a { A ( _ , ( ) ) -> chan | true -> C * D - ( ) } ; fun f ( x : unit ) : task int = ( shift x => B ) ( ) == a ; }")
	before := newTrack()
	for n := range len(head) + 1 {
		for _, next := range all {
			source := strings.Join(append(slices.Clone(head[:n]), next), " ")
			after := before.push(next)
			m, e := read.Stops(source)
			want := n
			if len(after.now) > 0 {
				want = n + 1
			}
			if _, whole := after.now[""]; whole {
				if e != api.ErrNone || m != 0 {
					t.Errorf("%q: %d %d", source, m, e)
				}
			} else if e != api.OK || m != want {
				t.Errorf("%q: %d %d, not %d", source, m, e, want)
			}
		}
		if n < len(head) {
			before = before.push(head[n])
		}
	}
}
