package read_test

import (
	"slices"
	"strings"
	"testing"

	"hearth/api"
	"hearth/read"
)

// P2.1: the kind of what is one token, and nothing else.
func TestWord(t *testing.T) {
	for want, list := range map[api.ReadKind][]string{
		api.ReadWord:  {"abc", "a", "abcdefgh", "fn", "modules", "mod", "ift", "i", "inputs", "zzzzzzzz"},
		api.ReadGreat: {"Node", "A", "Z", "Abcdefgh", "If"},
		api.ReadKey:   keywords,
		api.ReadInt:   {"0", "7", "~12", "~1", "10", "100", "9999999999", "~9999999999"},
		api.ReadSign:  signs,
	} {
		for _, s := range list {
			if kind, e := read.Word(s); e != api.OK || kind != want {
				t.Errorf("%q: %d %d", s, kind, e)
			}
		}
	}
	for _, s := range []string{"", " ", "a b", " a", "a ", "a\n", "~0", "007", "00", "~01", "~", "~~1", "- 1", "-1", "10000000000", "~10000000000", "abcdefghi", "Abcdefghi", "AB", "aB", "a1", "1a", "A1", "//", "/", "a//", "//a", ">", ">=", "=>=", "===", "--", "[", "]", "!", "\\", "\"", ".", "é", "É", "\x00", "\r", "\xff", "__", "()", "((",
		strings.Repeat("a", 9000), strings.Repeat("1", 9000), strings.Repeat(" ", 9000), strings.Repeat("(", 9000), "A" + strings.Repeat("a", 9000)} {
		if kind, e := read.Word(s); e != api.ErrNone || kind != 0 {
			t.Errorf("%q: %d %d", s, kind, e)
		}
	}
}

// P2.1: all short strings.
func TestWordOfShortStrings(t *testing.T) {
	check := func(s string) {
		want, none := kindOf(s), api.OK
		if want == 0 {
			none = api.ErrNone
		}
		if kind, e := read.Word(s); kind != want || e != none {
			t.Errorf("%q: %d %d", s, kind, e)
		}
	}
	for a := range 256 {
		check(string([]byte{byte(a)}))
		for b := range 256 {
			check(string([]byte{byte(a), byte(b)}))
			check(string([]byte{'i', byte(a), byte(b)}))
		}
	}
}

// P2.1: the longest token counts, and places are those of first bytes.
func TestTokens(t *testing.T) {
	for source, want := range map[string][]api.ReadToken{
		"":                             nil,
		" \t\n//x":                     nil,
		"//":                           nil,
		"x=>~5//y":                     {{Kind: api.ReadWord, Text: "x"}, {Kind: api.ReadSign, Text: "=>", At: 1}, {Kind: api.ReadInt, Text: "~5", N: -5, At: 3}},
		"fx(Ab1-> =>)==":               {{Kind: api.ReadWord, Text: "fx"}, {Kind: api.ReadSign, Text: "(", At: 2}, {Kind: api.ReadGreat, Text: "Ab", At: 3}, {Kind: api.ReadInt, Text: "1", N: 1, At: 5}, {Kind: api.ReadSign, Text: "->", At: 6}, {Kind: api.ReadSign, Text: "=>", At: 9}, {Kind: api.ReadSign, Text: ")", At: 11}, {Kind: api.ReadSign, Text: "==", At: 12}},
		"===>":                         {{Kind: api.ReadSign, Text: "=="}, {Kind: api.ReadSign, Text: "=>", At: 2}},
		"-->":                          {{Kind: api.ReadSign, Text: "-"}, {Kind: api.ReadSign, Text: "->", At: 1}},
		"letx":                         {{Kind: api.ReadWord, Text: "letx"}},
		"let x":                        {{Kind: api.ReadKey, Text: "let"}, {Kind: api.ReadWord, Text: "x", At: 4}},
		"aBcD":                         {{Kind: api.ReadWord, Text: "a"}, {Kind: api.ReadGreat, Text: "Bc", At: 1}, {Kind: api.ReadGreat, Text: "D", At: 3}},
		"1if~2":                        {{Kind: api.ReadInt, Text: "1", N: 1}, {Kind: api.ReadKey, Text: "if", At: 1}, {Kind: api.ReadInt, Text: "~2", N: -2, At: 3}},
		"_a?9":                         {{Kind: api.ReadSign, Text: "_"}, {Kind: api.ReadWord, Text: "a", At: 1}, {Kind: api.ReadSign, Text: "?", At: 2}, {Kind: api.ReadInt, Text: "9", N: 9, At: 3}},
		"9999999999 ~9999999999":       {{Kind: api.ReadInt, Text: "9999999999", N: 9999999999}, {Kind: api.ReadInt, Text: "~9999999999", N: -9999999999, At: 11}},
		"a//~0 \xff\x00%\r//\n\tb// /": {{Kind: api.ReadWord, Text: "a"}, {Kind: api.ReadWord, Text: "b", At: 14}},
	} {
		if l, e := read.Tokens(source); e != api.OK || !slices.Equal(l, want) {
			t.Errorf("%q: %v %d", source, l, e)
		}
	}
	for _, source := range []string{"= >", "a%b", "~0", "a 007", "~ 5", "abcdefghi", "a Abcdefghi b", "12345678901", "a / b", "a\rb", "é", "a\x00"} {
		if l, e := read.Tokens(source); e != api.ErrText || len(l) > 0 {
			t.Errorf("%q: %v %d", source, l, e)
		}
	}
}

// P2.1: lines and columns are counted in bytes, from 1 on.
func TestWrong(t *testing.T) {
	for source, want := range map[string][2]int{
		"a b\n12 ~0": {2, 4}, "a%b": {1, 2}, "%": {1, 1}, "\n%": {2, 1}, "\n\n  %": {3, 3}, "\t%": {1, 2}, "// é\n é": {2, 2}, "//\n//\na //\n/": {4, 1}, "a 007 %": {1, 3}, "a 12345678901": {1, 3}, "fun abcdefghi": {1, 5}, "Abcdefghi": {1, 1}, "a > b": {1, 3}, "a=>>": {1, 4}, "x\r\n": {1, 2}, "~": {1, 1}, "a/": {1, 2}, "A\n\nB\n ~~1": {4, 2}, "\xff": {1, 1},
	} {
		line, column, e := read.Wrong(source)
		if e != api.OK || line != want[0] || column != want[1] {
			t.Errorf("%q: %d %d %d", source, line, column, e)
		}
	}
	for _, source := range []string{"", "a b", " ", "\n", "//%", "a//%\nb", "module m { } x", ") fun ("} {
		if line, column, e := read.Wrong(source); e != api.ErrNone || line != 0 || column != 0 {
			t.Errorf("%q: %d %d %d", source, line, column, e)
		}
	}
}

// P2.1: many sources of pieces that meet without blanks, with and without tokens.
func TestTokensOfManySources(t *testing.T) {
	d := newDice(1)
	pieces := append(slices.Concat(keywords, signs), "a", "abcd", "A", "Bcde", "0", "7", "12345", "~", "~3", " ", " ", "\n", "\t", "//", "// %\n", "%", ">", "/")
	wrong := 0
	for range 20000 {
		source := ""
		for range d.Intn(8) {
			source += pick(d, pieces)
		}
		want, at := cut(source)
		l, e := read.Tokens(source)
		line, column, f := read.Wrong(source)
		if at < 0 {
			if e != api.OK || !slices.Equal(l, want) || f != api.ErrNone || line != 0 || column != 0 {
				t.Fatalf("%q: %v %d %d %d %d", source, l, e, line, column, f)
			}
			continue
		}
		wrong++
		lines := strings.Split(source[:at], "\n")
		if e != api.ErrText || len(l) > 0 || f != api.OK || line != len(lines) || column != len(lines[len(lines)-1])+1 {
			t.Fatalf("%q: %v %d %d %d %d", source, l, e, line, column, f)
		}
	}
	if wrong < 1000 || wrong > 19000 {
		t.Error(wrong)
	}
}

// P2.1 and P2.3: the length of a source is looked at first, and 8000 bytes are not too many.
func TestLongSources(t *testing.T) {
	for _, end := range []string{"a", "%", " "} {
		source := strings.Repeat(" ", api.ReadLong) + end
		tokens, e := read.Tokens(source)
		line, column, f := read.Wrong(source)
		u, g := read.Term(source)
		k, h := read.Type(source)
		m, i := read.Module(source)
		at, j := read.Stops(source)
		if e != api.ErrLong || f != api.ErrLong || g != api.ErrLong || h != api.ErrLong || i != api.ErrLong || j != api.ErrLong {
			t.Error(e, f, g, h, i, j)
		}
		if len(tokens) > 0 || line != 0 || column != 0 || at != 0 || !same(u, api.Term{}) || !same(k, api.TermType{}) || !same(m, api.TermModule{}) {
			t.Error(tokens, line, column, u, k, m, at)
		}
	}
	room := strings.Repeat(" ", api.ReadLong-3)
	if l, e := read.Tokens(room + "int"); e != api.OK || len(l) != 1 || l[0].At != api.ReadLong-3 {
		t.Error(l, e)
	}
	if k, e := read.Type(room + "int"); e != api.OK || !same(k, kind(api.TypeInt)) {
		t.Error(k, e)
	}
	if u, e := read.Term(room + "abc"); e != api.OK || !same(u, name("abc")) {
		t.Error(u, e)
	}
	if line, column, e := read.Wrong(room + "a %"); e != api.OK || line != 1 || column != api.ReadLong {
		t.Error(line, column, e)
	}
	if n, e := read.Stops(room + "fun"); e != api.OK || n != 0 {
		t.Error(n, e)
	}
}
