package term

import (
	"bytes"
	"iter"
)

const longest = 8 // letters of a name

// Name reports whether a string is a name.
func Name(s string) bool {
	return len(s) >= 1 && len(s) <= longest && small(s) && !keyword(s)
}

// Great reports whether a string is a great name.
func Great(s string) bool {
	return len(s) >= 1 && len(s) <= longest && s[0] >= 'A' && s[0] <= 'Z' && small(s[1:])
}

// Fresh returns the first name that is none of some strings.
func Fresh(l []string) string {
	return reserve(l).first()
}

func small(s string) bool {
	for _, letter := range s {
		if letter < 'a' || letter > 'z' {
			return false
		}
	}
	return true
}

func keyword(s string) bool {
	switch s {
	case "bool", "cell", "chan", "else", "false", "fun", "get", "if", "in", "input", "int", "join", "let", "match",
		"module", "out", "pause", "put", "reset", "send", "shift", "spawn", "take", "task", "then", "true", "type", "unit":
		return true
	}
	return false
}

// namer chooses names that were not taken.
type namer struct {
	taken map[string]bool
}

// reserve returns a namer that chooses none of the strings of some lists.
func reserve(lists ...[]string) namer {
	taken := map[string]bool{}
	for _, list := range lists {
		for _, s := range list {
			taken[s] = true
		}
	}
	return namer{taken}
}

// first returns the first name that is not taken. (So many names that none is left do not fit into a memory.)
func (n namer) first() string {
	found := ""
search:
	for size := 1; size <= longest; size++ {
		for s := range spelt(size) {
			if Name(s) && !n.taken[s] {
				found = s
				break search
			}
		}
	}
	return found
}

// choose takes the first name that is not taken.
func (n namer) choose() string {
	s := n.first()
	n.taken[s] = true
	return s
}

// spelt goes through the strings of some letters, as they are sorted.
func spelt(size int) iter.Seq[string] {
	return func(yield func(string) bool) {
		word := bytes.Repeat([]byte{'a'}, size)
		for more := true; more; more = spellNext(word) {
			if !yield(string(word)) {
				return
			}
		}
	}
}

// spellNext makes of a word the one behind it; the last one has none.
func spellNext(word []byte) bool {
	for i := range len(word) {
		at := len(word) - 1 - i
		if word[at] < 'z' {
			word[at]++
			return true
		}
		word[at] = 'a'
	}
	return false
}
