package read

import "hearth/api"

func (r *reader) term() api.Term {
	if read, ok := r.wide[r.peek().Text]; ok {
		return read()
	}
	return r.joined(levelCompared)
}

func (r *reader) function() api.Term { return r.binder("fun", api.TermFun) }

func (r *reader) shift() api.Term { return r.binder("shift", api.TermShift) }

func (r *reader) binder(word string, op api.TermOp) api.Term {
	r.expect(word)
	t := api.Term{Op: op, Text: r.take(api.ReadWord).Text}
	r.expect("=>")
	t.Kids = []api.Term{r.term()}
	return t
}

func (r *reader) let() api.Term {
	r.expect("let")
	t := api.Term{Op: api.TermLet, Text: r.take(api.ReadWord).Text}
	t.Kids = r.ledBy("=", "in")
	return t
}

func (r *reader) choice() api.Term {
	return api.Term{Op: api.TermIf, Kids: r.ledBy("if", "then", "else")}
}

// ledBy reads a term behind each of some words.
func (r *reader) ledBy(words ...string) []api.Term {
	var out []api.Term
	for _, word := range words {
		r.expect(word)
		out = append(out, r.term())
	}
	return out
}

// joined reads a term of a level that infixes, or nothing but blanks, hold together.
func (r *reader) joined(level int) api.Term {
	if level == levelApplied {
		return r.applied()
	}
	left := r.joined(level + 1)
	for {
		f, ok := r.infix(level)
		if !ok {
			return left
		}
		right := r.joined(level + 1)
		left = api.Term{Op: f.op, Kids: []api.Term{left, right}}
		if f.left() > level { // what stands left of a sign of this level is none of this level
			return left
		}
	}
}

// infix takes a sign of a level, if one is next.
func (r *reader) infix(level int) (infix, bool) {
	for _, f := range infixes {
		if f.level == level && r.skip(f.sign) {
			return f, true
		}
	}
	return infix{}, false
}

func (r *reader) applied() api.Term {
	left := r.atom()
	for r.seesAtom() {
		right := r.atom()
		left = api.Term{Op: api.TermApply, Kids: []api.Term{left, right}}
	}
	return left
}

func (r *reader) seesAtom() bool {
	next := r.peek()
	_, ok := r.atoms[next.Text]
	return ok || next.Kind == api.ReadInt || next.Kind == api.ReadWord || next.Kind == api.ReadGreat
}

func (r *reader) atom() api.Term {
	next := r.peek()
	if read, ok := r.atoms[next.Text]; ok {
		return read()
	}
	switch next.Kind {
	case api.ReadInt:
		return api.Term{Op: api.TermInt, N: r.next().N}
	case api.ReadWord:
		return api.Term{Op: api.TermName, Text: r.next().Text}
	}
	great := r.take(api.ReadGreat).Text
	return api.Term{Op: api.TermCon, Text: great, Kids: arguments(r, r.term)}
}

func (r *reader) truth() api.Term { return api.Term{Op: api.TermBool, N: r.bit()} }

// bit takes true or false, of which one is next.
func (r *reader) bit() int {
	if r.next().Text == "true" {
		return 1
	}
	return 0
}

// inner reads a term between brackets, or brackets alone.
func (r *reader) inner() api.Term {
	r.expect("(")
	if r.skip(")") {
		return api.Term{Op: api.TermUnit}
	}
	t := r.term()
	r.expect(")")
	return t
}

func (r *reader) match() api.Term {
	t := api.Term{Op: api.TermMatch, Kids: r.ledBy("match")}
	r.expect("{")
	for more := true; more; more = r.skip("|") {
		t.Pats = append(t.Pats, r.pat())
		t.Kids = append(t.Kids, r.ledBy("->")...)
	}
	r.expect("}")
	return t
}

func (r *reader) output() api.Term {
	r.expect("out")
	r.expect("(")
	t := api.Term{Op: api.TermOut, N: r.take(api.ReadInt).N}
	t.Kids = r.ledBy(",")
	r.expect(")")
	return t
}

func (r *reader) operation() api.Term {
	word := r.next().Text
	var t api.Term
	for _, o := range operations {
		if o.word == word {
			t.Op = o.op
			if o.kids > 0 {
				t.Kids = bracketed(r, o.kids, r.term)
			}
		}
	}
	return t
}

func (r *reader) pat() api.TermPat {
	next := r.peek()
	if read, ok := r.pats[next.Text]; ok {
		return read()
	}
	switch next.Kind {
	case api.ReadInt:
		return api.TermPat{Form: api.PatInt, N: r.next().N}
	case api.ReadWord:
		return api.TermPat{Form: api.PatName, Text: r.next().Text}
	}
	great := r.take(api.ReadGreat).Text
	return api.TermPat{Form: api.PatCon, Text: great, Parts: arguments(r, r.pat)}
}

func (r *reader) anything() api.TermPat {
	r.expect("_")
	return api.TermPat{Form: api.PatAny}
}

func (r *reader) truthPat() api.TermPat { return api.TermPat{Form: api.PatBool, N: r.bit()} }

func (r *reader) unitPat() api.TermPat {
	r.expect("(")
	r.expect(")")
	return api.TermPat{Form: api.PatUnit}
}
