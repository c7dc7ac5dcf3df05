package bind

import (
	"hearth/api"
	"hearth/term"
)

func within(n, least, most int) bool { return n >= least && n <= most }

// formed reports whether a program is formed. What can be of any length is counted before it is gone through.
func formed(p api.BindProg) bool {
	if len(p.Nodes) > api.BindNodes || len(p.Cons) > api.BindCons || !within(p.Main, 0, len(p.Funs)-1) || !consFit(p.Cons) {
		return false
	}
	for _, n := range p.Nodes {
		if !nodeFits(p, n) {
			return false
		}
	}
	return owned(p)
}

// consFit reports whether constructors are formed, with names that differ.
func consFit(cons []api.BindCon) bool {
	met := map[string]bool{}
	for _, c := range cons {
		if !term.Great(c.Name) || !within(c.Args, 0, api.TermArgs) || met[c.Name] {
			return false
		}
		met[c.Name] = true
	}
	return true
}

// nodeFits reports whether a node is formed, but for which ones its Kids are.
func nodeFits(p api.BindProg, n api.BindNode) bool {
	number, kids := n.N == 0, 0
	switch s := shapeOf(n.Op).(type) {
	case plain:
		kids = s.kids
	case binding:
		kids = s.kids
	case numbered:
		number, kids = within(n.N, s.least, s.most), s.kids
	case naming:
		number = within(n.N, -len(p.Funs), api.MeanVals-1)
	case making:
		kids, number = argsOf(p, n.N)
	case matching:
		return number && patsFit(p, n.Pats) && len(n.Kids) == len(n.Pats)+1
	default:
		return false
	}
	return number && len(n.Kids) == kids && len(n.Pats) == 0
}

// argsOf returns how many arguments the constructor with a number has, if there is one.
func argsOf(p api.BindProg, con int) (int, bool) {
	if !within(con, 0, len(p.Cons)-1) {
		return 0, false
	}
	return p.Cons[con].Args, true
}

func patsFit(p api.BindProg, pats []api.TermPat) bool {
	if !within(len(pats), 1, api.TermCases) {
		return false
	}
	for _, pat := range pats {
		if !patFits(p, pat) {
			return false
		}
	}
	return true
}

func patFits(p api.BindProg, pat api.TermPat) bool {
	count := 0
	for part := range parts(pat, partsOf) {
		count++
		if count > api.TermPats || !partFits(p, part) {
			return false
		}
	}
	return true
}

// partFits looks at a pattern without its Parts.
func partFits(p api.BindProg, pat api.TermPat) bool {
	number, count := pat.N == 0, 0
	switch pat.Form {
	case api.PatAny, api.PatName, api.PatUnit:
	case api.PatInt:
		number = within(pat.N, -api.TermMost, api.TermMost)
	case api.PatBool:
		number = within(pat.N, 0, 1)
	case api.PatCon:
		count, number = argsOf(p, pat.N)
	default:
		return false
	}
	return number && pat.Text == "" && len(pat.Parts) == count
}

// owned reports whether each node belongs to one place alone: it is a Kid, of a node with a lesser number, or a body.
func owned(p api.BindProg) bool {
	owners := make([]int, len(p.Nodes))
	for i, n := range p.Nodes {
		for _, kid := range n.Kids {
			if !within(kid, i+1, len(p.Nodes)-1) {
				return false
			}
			owners[kid]++
		}
	}
	for _, body := range p.Funs {
		if !within(body, 0, len(p.Nodes)-1) {
			return false
		}
		owners[body]++
	}
	for _, n := range owners {
		if n != 1 {
			return false
		}
	}
	return true
}
