package read

import (
	"strconv"
	"strings"

	"hearth/api"
)

// printer prints by putting tokens. A bracket that has no blank before it is put with the token that it stands behind.
type printer struct {
	put func(tokens string)
}

// sourceOf returns the source that tokens are put together to, with the blanks between them.
func sourceOf(write func(printer)) string {
	var out []byte
	put := func(tokens string) {
		if len(out) > 0 && out[len(out)-1] != '(' && !strings.Contains("),;", tokens[:1]) {
			out = append(out, ' ')
		}
		out = append(out, tokens...)
	}
	write(printer{put})
	return string(out)
}

// list prints a word, and the things that it has in brackets behind it, if there are any.
func list[T any](p printer, word string, things []T, write func(T)) {
	if len(things) == 0 {
		p.put(word)
		return
	}
	p.put(word + "(")
	for i, x := range things {
		if i > 0 {
			p.put(",")
		}
		write(x)
	}
	p.put(")")
}

// term prints a term where a level is asked for. Whether a bracket follows matters for a great name, whose own it would become.
func (p printer) term(t api.Term, level int, bracketNext bool) {
	if inBrackets(t, level, bracketNext) {
		p.put("(")
		p.wide(t)
		p.put(")")
		return
	}
	switch t.Op {
	case api.TermInt:
		p.put(integerText(t.N))
	case api.TermBool:
		p.put(truthText(t.N))
	case api.TermUnit:
		p.put("()")
	case api.TermName:
		p.put(t.Text)
	case api.TermFun, api.TermShift, api.TermLet, api.TermIf, api.TermMatch:
		p.worded(t)
	case api.TermApply:
		p.term(t.Kids[0], levelApplied, opens(t.Kids[1], bracketNext))
		p.term(t.Kids[1], levelAtom, bracketNext)
	case api.TermCon:
		list(p, t.Text, t.Kids, p.wide)
	default:
		p.operation(t)
	}
}

// wide prints a term where any term can stand, and no bracket follows.
func (p printer) wide(t api.Term) { p.term(t, levelTerm, false) }

func inBrackets(t api.Term, level int, bracketNext bool) bool {
	lone := t.Op == api.TermCon && len(t.Kids) == 0
	return levelOf(t) < level || lone && bracketNext
}

// opens reports whether an atom begins with a bracket.
func opens(t api.Term, bracketNext bool) bool {
	return t.Op == api.TermUnit || inBrackets(t, levelAtom, bracketNext)
}

func integerText(n int) string {
	if n < 0 {
		return "~" + strconv.Itoa(-n)
	}
	return strconv.Itoa(n)
}

func truthText(n int) string {
	if n == 1 {
		return "true"
	}
	return "false"
}

// worded prints a term that is led by its words.
func (p printer) worded(t api.Term) {
	switch t.Op {
	case api.TermFun:
		p.led(t.Kids, "fun "+t.Text+" =>")
	case api.TermShift:
		p.led(t.Kids, "shift "+t.Text+" =>")
	case api.TermLet:
		p.led(t.Kids, "let "+t.Text+" =", "in")
	case api.TermIf:
		p.led(t.Kids, "if", "then", "else")
	case api.TermMatch:
		p.led(t.Kids[:1], "match")
		p.put("{")
		for i, pat := range t.Pats {
			if i > 0 {
				p.put("|")
			}
			p.pat(pat)
			p.led(t.Kids[i+1:i+2], "->")
		}
		p.put("}")
	}
}

// led prints each of some terms behind its words.
func (p printer) led(terms []api.Term, words ...string) {
	for i, t := range terms {
		p.put(words[i])
		p.wide(t)
	}
}

// operation prints an operation with a sign, or with a word of its own.
func (p printer) operation(t api.Term) {
	if f, ok := infixOf(t.Op); ok {
		p.term(t.Kids[0], f.left(), false)
		p.put(f.sign)
		p.term(t.Kids[1], f.level+1, false)
		return
	}
	if t.Op == api.TermOut {
		p.put("out(" + integerText(t.N))
		p.led(t.Kids, ",")
		p.put(")")
		return
	}
	for _, o := range operations {
		if o.op == t.Op {
			list(p, o.word, t.Kids, p.wide)
		}
	}
}

func (p printer) pat(t api.TermPat) {
	switch t.Form {
	case api.PatAny:
		p.put("_")
	case api.PatName:
		p.put(t.Text)
	case api.PatInt:
		p.put(integerText(t.N))
	case api.PatBool:
		p.put(truthText(t.N))
	case api.PatUnit:
		p.put("()")
	case api.PatCon:
		list(p, t.Text, t.Parts, p.pat)
	}
}

func (p printer) kind(t api.TermType) {
	if t.Sort == api.TypeFun {
		p.simple(t.Parts[0])
		p.put("->")
		p.kind(t.Parts[1])
		return
	}
	p.simple(t)
}

func (p printer) simple(t api.TermType) {
	switch t.Sort {
	case api.TypeFun:
		p.put("(")
		p.kind(t)
		p.put(")")
	case api.TypeData:
		p.put(t.Text)
	case api.TypeHole:
		p.put("?" + integerText(t.N))
	}
	for _, s := range typeWords {
		if s.sort == t.Sort {
			p.put(s.word)
			for _, part := range t.Parts {
				p.simple(part)
			}
		}
	}
}

// linesOf returns the source of a module, each line with its end.
func linesOf(m api.TermModule) string {
	lines := "module " + m.Name + " {\n"
	for _, d := range m.Datas {
		lines += sourceOf(func(p printer) { p.data(d) }) + "\n"
	}
	for _, f := range m.Funs {
		lines += sourceOf(func(p printer) { p.definition(f) }) + "\n"
	}
	return lines + "}\n"
}

func (p printer) data(d api.TermData) {
	p.put("type " + d.Name + " =")
	for i, c := range d.Cons {
		if i > 0 {
			p.put("|")
		}
		list(p, c.Name, c.Args, p.kind)
	}
	p.put(";")
}

func (p printer) definition(f api.TermFunDef) {
	p.put("fun " + f.Name + "(" + f.Param + " :")
	p.kind(f.From)
	p.put(") :")
	p.kind(f.To)
	p.put("=")
	p.wide(f.Body)
	p.put(";")
}
