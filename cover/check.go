package cover

import (
	"hearth/api"
	"hearth/term"
)

// constructor is a constructor of a data type.
type constructor struct {
	api.TermConDef
	of    string // the name of its data type
	order int    // how many stand before it there
}

// checked is a case that is as defined, with its constructors by their names.
type checked struct {
	api.CoverCase
	cons map[string]constructor
}

// check returns whether a case is as defined.
func check(c api.CoverCase) (checked, bool) {
	k := checked{c, map[string]constructor{}}
	if !typesFormed(c) || !k.enterAll() || !k.allNamed() || !k.rowsFit() {
		return checked{}, false
	}
	return k, true
}

// checkWith returns also whether a value is formed, and of the type of the case.
func checkWith(c api.CoverCase, v api.CoverVal) (checked, bool) {
	k, ok := check(c)
	return k, ok && formed(v) && k.valueIs(v, k.Type)
}

// checkTree returns also whether a tree is formed for the case.
func checkTree(c api.CoverCase, t api.CoverNode) (checked, bool) {
	k, ok := check(c)
	return k, ok && shaped(t) && k.treeFits(known{TermType: k.Type}, t)
}

// typesFormed asks layer 1 about a module with the data types, and a function from and to the type.
func typesFormed(c api.CoverCase) bool {
	f := api.TermFunDef{Name: "f", Param: "x", From: c.Type, To: c.Type, Body: api.Term{Op: api.TermUnit}}
	return term.CheckModule(api.TermModule{Name: "m", Datas: c.Datas, Funs: []api.TermFunDef{f}}) == api.OK
}

// enterAll enters the constructors of all data types, and reports whether all names differ.
func (k checked) enterAll() bool {
	met := map[string]bool{}
	for _, d := range k.Datas {
		if met[d.Name] {
			return false
		}
		met[d.Name] = true
		for order, con := range d.Cons {
			if _, entered := k.cons[con.Name]; entered {
				return false
			}
			k.cons[con.Name] = constructor{con, d.Name, order}
		}
	}
	return true
}

// allNamed reports whether all types name data types that there are.
func (k checked) allNamed() bool {
	for _, con := range k.cons {
		for _, arg := range con.Args {
			if !k.named(arg) {
				return false
			}
		}
	}
	return k.named(k.Type)
}

func (k checked) named(t api.TermType) bool {
	if t.Sort == api.TypeData {
		return len(k.consOf(t)) > 0
	}
	for _, part := range t.Parts {
		if !k.named(part) {
			return false
		}
	}
	return true
}

// consOf returns the constructors of a data type, which has at least one if it's there.
func (k checked) consOf(t api.TermType) []api.TermConDef {
	for _, d := range k.Datas {
		if d.Name == t.Text {
			return d.Cons
		}
	}
	return nil
}

func (k checked) hasRow(row int) bool { return row >= 0 && row < len(k.Rows) }

func (k checked) rowsFit() bool {
	if len(k.Rows) > api.CoverRows {
		return false
	}
	nodes := 0
	for _, row := range k.Rows {
		if term.CheckPat(row) != api.OK || !k.patIs(row, k.Type) {
			return false
		}
		for range places(row) {
			nodes++
		}
	}
	return nodes <= api.CoverPats
}

// patIs reports whether a pattern is of a type.
func (k checked) patIs(p api.TermPat, t api.TermType) bool {
	h, asked := asks(p)
	return !asked || k.hasHead(t, h) && allOf(p.Parts, k.argsOf(h), k.patIs)
}

// valueIs reports whether a value that is formed is of a type.
func (k checked) valueIs(v api.CoverVal, t api.TermType) bool {
	if v.Form == api.CoverElse {
		return headless(t)
	}
	h := headOf(v)
	return k.hasHead(t, h) && allOf(v.Parts, k.argsOf(h), k.valueIs)
}

// allOf reports whether there are as many parts as types, and each one is of its type.
func allOf[T any](parts []T, types []api.TermType, is func(T, api.TermType) bool) bool {
	if len(parts) != len(types) {
		return false
	}
	for i, part := range parts {
		if !is(part, types[i]) {
			return false
		}
	}
	return true
}
