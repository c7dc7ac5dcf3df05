package read

import "hearth/api"

func (r *reader) kind() api.TermType {
	from := r.simple()
	if !r.skip("->") {
		return from
	}
	to := r.kind()
	return api.TermType{Sort: api.TypeFun, Parts: []api.TermType{from, to}}
}

func (r *reader) simple() api.TermType {
	if read, ok := r.types[r.peek().Text]; ok {
		return read()
	}
	return api.TermType{Sort: api.TypeData, Text: r.take(api.ReadGreat).Text}
}

func (r *reader) hole() api.TermType {
	r.expect("?")
	return api.TermType{Sort: api.TypeHole, N: r.take(api.ReadInt).N}
}

func (r *reader) innerType() api.TermType {
	r.expect("(")
	t := r.kind()
	r.expect(")")
	return t
}

func (r *reader) typeWord() api.TermType {
	word := r.next().Text
	var t api.TermType
	for _, s := range typeWords {
		if s.word == word {
			t.Sort = s.sort
			if s.parts > 0 {
				t.Parts = []api.TermType{r.simple()}
			}
		}
	}
	return t
}

func (r *reader) module() api.TermModule {
	r.expect("module")
	m := api.TermModule{Name: r.take(api.ReadWord).Text}
	r.expect("{")
	for r.sees("type") {
		m.Datas = append(m.Datas, r.data())
	}
	for r.sees("fun") {
		m.Funs = append(m.Funs, r.definition())
	}
	r.expect("}")
	return m
}

func (r *reader) data() api.TermData {
	r.expect("type")
	d := api.TermData{Name: r.take(api.ReadGreat).Text}
	r.expect("=")
	for more := true; more; more = r.skip("|") {
		d.Cons = append(d.Cons, r.con())
	}
	r.expect(";")
	return d
}

func (r *reader) con() api.TermConDef {
	great := r.take(api.ReadGreat).Text
	return api.TermConDef{Name: great, Args: arguments(r, r.kind)}
}

func (r *reader) definition() api.TermFunDef {
	r.expect("fun")
	f := api.TermFunDef{Name: r.take(api.ReadWord).Text}
	r.expect("(")
	f.Param = r.take(api.ReadWord).Text
	r.expect(":")
	f.From = r.kind()
	r.expect(")")
	r.expect(":")
	f.To = r.kind()
	r.expect("=")
	f.Body = r.term()
	r.expect(";")
	return f
}
