package term

import "hearth/api"

// piece is a module, or a part of one that has a name.
type piece interface {
	inner() []piece
}

type (
	modulePiece struct{ api.TermModule }
	dataPiece   struct{ api.TermData }
	conPiece    struct{ api.TermConDef }
	funPiece    struct{ api.TermFunDef }
)

func (p modulePiece) inner() []piece {
	var out []piece
	for _, d := range p.Datas {
		out = append(out, dataPiece{d})
	}
	for _, f := range p.Funs {
		out = append(out, funPiece{f})
	}
	return out
}

func (p dataPiece) inner() []piece {
	var out []piece
	for _, c := range p.Cons {
		out = append(out, conPiece{c})
	}
	return out
}

func (p conPiece) inner() []piece { return nil }

func (p funPiece) inner() []piece { return nil }

// CheckModule returns ErrArg for a module that is not formed.
func CheckModule(m api.TermModule) api.Errno {
	return formed(func() { askPiece(modulePiece{m}) })
}

// askPiece gives up if a piece is not formed. Its lists are counted before they are gone through: they may be of any length.
func askPiece(p piece) {
	switch x := p.(type) {
	case modulePiece:
		ask(Name(x.Name) && len(x.Datas) <= api.TermDatas)
		ask(len(x.Funs) >= 1 && len(x.Funs) <= api.TermFuns)
	case dataPiece:
		ask(Great(x.Name) && len(x.Cons) >= 1 && len(x.Cons) <= api.TermCons)
	case conPiece:
		ask(Great(x.Name) && len(x.Args) <= api.TermArgs && all(x.Args, whole))
	case funPiece:
		ask(Name(x.Name) && Name(x.Param) && whole(x.From) && whole(x.To))
		ask(Check(x.Body) == api.OK)
	}
	for _, q := range p.inner() {
		askPiece(q)
	}
}
