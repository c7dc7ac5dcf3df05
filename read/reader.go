package read

import "hearth/api"

// stop is what a reader gives up with: the number of a token that cannot follow those before it.
type stop struct {
	at int
}

// readers are those who read what a keyword, or a sign, begins.
type readers[T any] map[string]func() T

// reader reads tokens. It takes one only where some source goes on with it, and never goes back: where it gives up, no source goes on.
type reader struct {
	tokens []api.ReadToken
	at     int
	wide   readers[api.Term] // those of levelTerm
	atoms  readers[api.Term]
	pats   readers[api.TermPat]
	types  readers[api.TermType]
}

func newReader(tokens []api.ReadToken) *reader {
	r := &reader{tokens: tokens}
	r.wide = readers[api.Term]{"fun": r.function, "shift": r.shift, "let": r.let, "if": r.choice}
	r.atoms = readers[api.Term]{"true": r.truth, "false": r.truth, "(": r.inner, "match": r.match, "out": r.output}
	for _, o := range operations {
		r.atoms[o.word] = r.operation
	}
	r.pats = readers[api.TermPat]{"_": r.anything, "true": r.truthPat, "false": r.truthPat, "(": r.unitPat}
	r.types = readers[api.TermType]{"?": r.hole, "(": r.innerType}
	for _, s := range typeWords {
		r.types[s.word] = r.typeWord
	}
	return r
}

// parse returns what all of some tokens are read as, or the number of the token that it stops at: the number of all of them at their end.
func parse[T any](tokens []api.ReadToken, read func(*reader) T) (out T, at int, ok bool) {
	defer func() {
		if s, stopped := recover().(stop); stopped {
			var none T
			out, at, ok = none, s.at, false
		}
	}()
	r := newReader(tokens)
	out = read(r)
	if r.at < len(tokens) {
		r.stop()
	}
	return out, 0, true
}

func (r *reader) stop() { panic(stop{r.at}) }

// peek returns the next token, and one without a Text at the end.
func (r *reader) peek() api.ReadToken {
	if r.at == len(r.tokens) {
		return api.ReadToken{}
	}
	return r.tokens[r.at]
}

func (r *reader) next() api.ReadToken {
	t := r.peek()
	r.at++
	return t
}

// sees reports whether a keyword, or a sign, is next. (Tokens of different kinds have different Texts.)
func (r *reader) sees(text string) bool { return r.peek().Text == text }

// skip takes a keyword, or a sign, if it is next.
func (r *reader) skip(text string) bool {
	if !r.sees(text) {
		return false
	}
	r.at++
	return true
}

func (r *reader) expect(text string) {
	if !r.skip(text) {
		r.stop()
	}
}

// take takes a token of a kind.
func (r *reader) take(kind api.ReadKind) api.ReadToken {
	if r.peek().Kind != kind {
		r.stop()
	}
	return r.next()
}

// bracketed reads a list between brackets: so many things, or, if this is 0, as many as there are, but one at least.
func bracketed[T any](r *reader, count int, read func() T) []T {
	r.expect("(")
	list := []T{read()}
	for count == 0 && r.sees(",") || len(list) < count {
		r.expect(",")
		list = append(list, read())
	}
	r.expect(")")
	return list
}

// arguments reads what a great name has, which may be nothing.
func arguments[T any](r *reader, read func() T) []T {
	if !r.sees("(") {
		return nil
	}
	return bracketed(r, 0, read)
}
