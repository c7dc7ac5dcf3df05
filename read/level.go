package read

import "hearth/api"

// The levels of terms, from the widest one to the narrowest: where a level is asked for, a term of a later one can stand, too.
const (
	levelTerm = iota
	levelCompared
	levelSum
	levelProduct
	levelApplied
	levelAtom
)

// infix is an operation whose sign stands between its Kids.
type infix struct {
	sign  string
	op    api.TermOp
	level int
}

var infixes = [...]infix{
	{"<", api.TermLess, levelCompared},
	{"==", api.TermSame, levelCompared},
	{"+", api.TermAdd, levelSum},
	{"-", api.TermSub, levelSum},
	{"*", api.TermMul, levelProduct},
}

// left returns the level that is asked for before the sign; behind it, it is the next one.
func (f infix) left() int {
	if f.level == levelCompared {
		return f.level + 1
	}
	return f.level
}

// operation is an operation that is a word with its Kids in brackets, or a word alone if it has none.
type operation struct {
	word string
	op   api.TermOp
	kids int
}

var operations = [...]operation{
	{"cell", api.TermCell, 1},
	{"get", api.TermGet, 1},
	{"put", api.TermPut, 2},
	{"spawn", api.TermSpawn, 1},
	{"join", api.TermJoin, 1},
	{"chan", api.TermChan, 0},
	{"send", api.TermSend, 2},
	{"take", api.TermTake, 1},
	{"input", api.TermIn, 0},
	{"reset", api.TermReset, 1},
	{"pause", api.TermPause, 0},
}

// typeWord is a form of types that is a word, with a simple type behind it or without one.
type typeWord struct {
	word  string
	sort  api.TermSort
	parts int
}

var typeWords = [...]typeWord{
	{"int", api.TypeInt, 0},
	{"bool", api.TypeBool, 0},
	{"unit", api.TypeUnit, 0},
	{"cell", api.TypeCell, 1},
	{"chan", api.TypeChan, 1},
	{"task", api.TypeTask, 1},
}

// infixOf returns how an operation is written between its Kids, and whether it is.
func infixOf(op api.TermOp) (infix, bool) {
	for _, f := range infixes {
		if f.op == op {
			return f, true
		}
	}
	return infix{}, false
}

// levelOf returns the narrowest level of a term.
func levelOf(t api.Term) int {
	switch t.Op {
	case api.TermFun, api.TermShift, api.TermLet, api.TermIf:
		return levelTerm
	case api.TermApply:
		return levelApplied
	}
	if f, ok := infixOf(t.Op); ok {
		return f.level
	}
	return levelAtom
}
