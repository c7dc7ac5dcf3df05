package term

import "hearth/api"

const lastHole = 99 // the greatest N of a hole

// unformed is what a check gives up with.
type unformed struct{}

// ask gives up if something is not so.
func ask(so bool) {
	if !so {
		panic(unformed{})
	}
}

// formed returns ErrArg if a check gives up.
func formed(check func()) (e api.Errno) {
	defer func() {
		if recover() != nil {
			e = api.ErrArg
		}
	}()
	check()
	return api.OK
}

// Check returns ErrArg for a term that is not formed.
func Check(t api.Term) api.Errno {
	return formed(func() {
		nodes := 0
		for depth, part := range partsOf(t, kidsOf) {
			nodes++
			ask(nodes <= api.TermNodes && depth <= api.TermDepth)
			ask(kidsFit(part) && numberFits(part) && textFits(part) && patsFit(part))
		}
	})
}

func kidsFit(t api.Term) bool {
	n := len(t.Kids)
	switch t.Op {
	case api.TermInt, api.TermBool, api.TermUnit, api.TermName, api.TermChan, api.TermIn, api.TermPause:
		return n == 0
	case api.TermFun, api.TermShift, api.TermCell, api.TermGet, api.TermSpawn, api.TermJoin, api.TermTake, api.TermReset, api.TermOut:
		return n == 1
	case api.TermApply, api.TermAdd, api.TermSub, api.TermMul, api.TermLess, api.TermSame, api.TermPut, api.TermSend, api.TermLet:
		return n == 2
	case api.TermIf:
		return n == 3
	case api.TermCon:
		return n <= api.TermArgs
	case api.TermMatch:
		return n == len(t.Pats)+1
	}
	return false
}

func numberFits(t api.Term) bool {
	switch t.Op {
	case api.TermInt:
		return integer(t.N)
	case api.TermBool:
		return t.N == 0 || t.N == 1
	case api.TermOut:
		return t.N >= 0 && t.N < api.TermPorts
	}
	return t.N == 0
}

func integer(n int) bool { return n >= -api.TermMost && n <= api.TermMost }

func textFits(t api.Term) bool {
	switch t.Op {
	case api.TermName, api.TermFun, api.TermShift, api.TermLet:
		return Name(t.Text)
	case api.TermCon:
		return Great(t.Text)
	}
	return t.Text == ""
}

func patsFit(t api.Term) bool {
	if t.Op != api.TermMatch {
		return len(t.Pats) == 0
	}
	return len(t.Pats) >= 1 && len(t.Pats) <= api.TermCases && all(t.Pats, patFormed)
}

func patFormed(p api.TermPat) bool { return CheckPat(p) == api.OK }

// CheckPat returns ErrArg for a pattern that is not formed.
func CheckPat(p api.TermPat) api.Errno {
	return formed(func() {
		nodes := 0
		met := map[string]bool{}
		for _, part := range partsOf(p, partsOfPat) {
			nodes++
			ask(nodes <= api.TermPats && patFits(part))
			if part.Form == api.PatName {
				ask(!met[part.Text])
				met[part.Text] = true
			}
		}
	})
}

// patFits looks at a pattern without its Parts.
func patFits(p api.TermPat) bool {
	number, text, few := p.N == 0, p.Text == "", len(p.Parts) == 0
	switch p.Form {
	case api.PatAny, api.PatUnit:
	case api.PatName:
		text = Name(p.Text)
	case api.PatInt:
		number = integer(p.N)
	case api.PatBool:
		number = p.N == 0 || p.N == 1
	case api.PatCon:
		text, few = Great(p.Text), len(p.Parts) <= api.TermArgs
	default:
		return false
	}
	return number && text && few
}

// CheckType returns ErrArg for a type that is not formed.
func CheckType(t api.TermType) api.Errno {
	return formed(func() {
		nodes := 0
		for _, part := range partsOf(t, partsOfType) {
			nodes++
			ask(nodes <= api.TermTypes && typeFits(part))
		}
	})
}

// typeFits looks at a type without its Parts.
func typeFits(t api.TermType) bool {
	number, text, parts := t.N == 0, t.Text == "", 0
	switch t.Sort {
	case api.TypeInt, api.TypeBool, api.TypeUnit:
	case api.TypeFun:
		parts = 2
	case api.TypeCell, api.TypeChan, api.TypeTask:
		parts = 1
	case api.TypeData:
		text = Great(t.Text)
	case api.TypeHole:
		number = t.N >= 0 && t.N <= lastHole
	default:
		return false
	}
	return number && text && len(t.Parts) == parts
}

// whole reports whether a type is formed, and has no hole.
func whole(t api.TermType) bool {
	if CheckType(t) != api.OK {
		return false
	}
	for _, part := range partsOf(t, partsOfType) {
		if part.Sort == api.TypeHole {
			return false
		}
	}
	return true
}
