package term_test

import (
	"slices"
	"testing"

	"hearth/term"
)

var keywords = []string{"bool", "cell", "chan", "else", "false", "fun", "get", "if", "in", "input", "int", "join", "let", "match", "module", "out", "pause", "put", "reset", "send", "shift", "spawn", "take", "task", "then", "true", "type", "unit"}

// P1.1: names and great names, their lengths and letters, and keywords.
func TestName(t *testing.T) {
	for _, s := range []string{"a", "z", "az", "abc", "abcdefgh", "zzzzzzzz", "main", "ifs", "i", "modules", "nil", "bools", "inp"} {
		if !term.Name(s) || term.Great(s) {
			t.Errorf("%q is a name, and no great one", s)
		}
	}
	for _, s := range []string{"A", "Z", "Az", "Cons", "Abcdefgh", "Zzzzzzzz", "Let", "If", "Type"} {
		if term.Name(s) || !term.Great(s) {
			t.Errorf("%q is a great name, and no name", s)
		}
	}
	for _, s := range []string{"", "abcdefghi", "Abcdefghi", "aB", "AB", "CoNs", "a1", "A1", "1a", "a ", " a", "a_", "A_", "`", "{", "@", "[", "a`", "a{", "A`", "A{", "é", "aé", "Aé", "É", "\x00", "a\x00", "\xff", "a\xff", "A\xff", "ａ", "A\n"} {
		if term.Name(s) || term.Great(s) {
			t.Errorf("%q is neither", s)
		}
	}
	for _, s := range keywords {
		if term.Name(s) || term.Great(s) {
			t.Errorf("%q is a keyword", s)
		}
	}
}

func TestNameOfEachByte(t *testing.T) {
	for b := range 256 {
		c := byte(b)
		low, high := c >= 'a' && c <= 'z', c >= 'A' && c <= 'Z'
		one, two, big := string([]byte{c}), string([]byte{'q', c}), string([]byte{'Q', c})
		if term.Name(one) != low || term.Great(one) != high {
			t.Errorf("%q: %v %v", one, term.Name(one), term.Great(one))
		}
		if term.Name(two) != low || term.Great(two) || term.Name(big) || term.Great(big) != low {
			t.Errorf("%q, %q: a letter behind the first", two, big)
		}
	}
}

// words returns all strings of letters from a to z with at most three of them, by length, and sorted.
func words() []string {
	var one, two, three []string
	for c := 'a'; c <= 'z'; c++ {
		one = append(one, string(c))
	}
	for _, s := range one {
		for _, l := range one {
			two = append(two, s+l)
		}
	}
	for _, s := range two {
		for _, l := range one {
			three = append(three, s+l)
		}
	}
	return slices.Concat(one, two, three)
}

// P1.1: Fresh goes through the strings by length and order, over those that are taken, or keywords.
func TestFresh(t *testing.T) {
	all := words()
	for i, c := range []struct {
		l    []string
		want string
	}{
		{nil, "a"}, {[]string{}, "a"}, {[]string{"a", "c"}, "b"}, {[]string{"c", "a", "b", "a"}, "d"}, {[]string{"b", "A", "aa", "", "let"}, "a"},
		{all[:26], "aa"}, {all[1:26], "a"}, {append([]string{"ab"}, all[:26]...), "aa"}, {all[:27], "ab"}, {all[:52], "ba"}, {all[:26+26*26], "aaa"},
	} {
		before := slices.Clone(c.l)
		if s := term.Fresh(c.l); s != c.want || !slices.Equal(before, c.l) {
			t.Errorf("%d: %q, not %q", i, s, c.want)
		}
	}
	for _, s := range keywords {
		i := slices.Index(all, s)
		if i < 0 {
			continue
		}
		want := i
		for slices.Contains(keywords, all[want]) {
			want++
		}
		if f := term.Fresh(all[:i]); f != all[want] {
			t.Errorf("%q, not %q: a keyword is no name", f, all[want])
		}
	}
	if s := term.Fresh(all); s != "aaaa" {
		t.Errorf("%q behind three letters", s)
	}
}
