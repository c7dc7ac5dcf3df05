package read

import (
	"iter"
	"strconv"
	"strings"

	"hearth/api"
	"hearth/term"
)

// signs has each sign before those that it begins with: the longest one counts.
var signs = [...]string{"=>", "==", "->", "=", "<", "+", "-", "*", "(", ")", "{", "}", "|", ",", ";", ":", "_", "?"}

// tokensOf goes through the tokens of a source. What is no token is one with Kind 0, and the last one.
func tokensOf(source string) iter.Seq[api.ReadToken] {
	return func(yield func(api.ReadToken) bool) {
		at := skipBlanks(source, 0)
		for at < len(source) {
			t := tokenAt(source, at)
			if !yield(t) || t.Kind == 0 {
				return
			}
			at = skipBlanks(source, at+len(t.Text))
		}
	}
}

// skipBlanks returns the first place from a place on at which no blank begins.
func skipBlanks(source string, at int) int {
	for at < len(source) {
		switch rest := source[at:]; {
		case rest[0] == ' ' || rest[0] == '\t' || rest[0] == '\n':
			at++
		case strings.HasPrefix(rest, "//"):
			at += span(rest, 0, inLine)
		default:
			return at
		}
	}
	return at
}

// tokenAt returns the token that begins at a place.
func tokenAt(source string, at int) api.ReadToken {
	kind, size := begin(source[at:])
	if kind == 0 {
		return api.ReadToken{At: at}
	}
	t := api.ReadToken{Kind: kind, Text: source[at : at+size], At: at}
	if kind == api.ReadInt {
		t.N = number(t.Text)
	}
	return t
}

// begin returns the kind and the size of the longest token that a text begins with; the kind is 0 if there is none.
func begin(text string) (api.ReadKind, int) {
	if text == "" {
		return 0, 0
	}
	switch c := text[0]; {
	case small(c):
		size := span(text, 0, small)
		return wordKind(text[:size]), size
	case c >= 'A' && c <= 'Z':
		size := span(text, 1, small)
		return kindIf(term.Great(text[:size]), api.ReadGreat), size
	case digit(c) || c == '~':
		size := span(text, 1, digit)
		return kindIf(integer(text[:size]), api.ReadInt), size
	}
	for _, s := range signs {
		if strings.HasPrefix(text, s) {
			return api.ReadSign, len(s)
		}
	}
	return 0, 0
}

// span returns where a row of bytes of some kind ends that begins at a place.
func span(text string, from int, is func(byte) bool) int {
	for from < len(text) && is(text[from]) {
		from++
	}
	return from
}

func small(c byte) bool { return c >= 'a' && c <= 'z' }

func digit(c byte) bool { return c >= '0' && c <= '9' }

func inLine(c byte) bool { return c != '\n' }

func kindIf(so bool, kind api.ReadKind) api.ReadKind {
	if so {
		return kind
	}
	return 0
}

// wordKind returns the kind of a row of letters: layer 1 has no other reason than a keyword to refuse a short one as a name.
func wordKind(letters string) api.ReadKind {
	if term.Name(letters) {
		return api.ReadWord
	}
	return kindIf(len(letters) <= api.ReadName, api.ReadKey)
}

// integer reports whether digits, or a tilde with digits, are an integer.
func integer(text string) bool {
	digits := strings.TrimPrefix(text, "~")
	if len(digits) < 1 || len(digits) > api.ReadDigits {
		return false
	}
	return digits[0] != '0' || text == "0"
}

// number returns what integer an integer's text is.
func number(text string) int {
	digits, less := strings.CutPrefix(text, "~")
	n, _ := strconv.Atoi(digits)
	if less {
		return -n
	}
	return n
}
