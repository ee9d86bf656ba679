package view

import (
	"iter"

	"cavil/api"
)

// known reports whether n is the index of a node.
func (f *File) known(n int) bool {
	return f != nil && 0 <= n && n < len(f.Tree.Nodes)
}

// own produces the own tokens of node n in order. It looks at the node and its children alone: tree.Own would go through the whole tree for each node.
func (f *File) own(n int) iter.Seq[int] {
	return func(yield func(tok int) bool) {
		if !f.known(n) {
			return
		}
		x := f.Tree.Nodes[n]
		next, end := f.reach(x)
		through := func(to int) bool {
			for ; next < to; next++ {
				if !yield(next) {
					return false
				}
			}
			return true
		}
		for _, kid := range x.Kids {
			from, to := f.reach(f.Node(kid))
			if !through(min(from, end)) {
				return
			}
			next = max(next, to)
		}
		through(end)
	}
}

// reach returns where the tokens of a node of f begin and where they end. It keeps to the tokens that there are, for files whose tree New has not seen as it is.
func (f *File) reach(x api.Node) (from, to int) {
	from = min(max(x.From, 0), len(f.Toks))
	to = min(max(x.To, from), len(f.Toks))
	return from, to
}

// place returns the offset at which token tok begins or, behind the last token, at which that one ends.
func (f *File) place(tok int) int {
	switch {
	case tok < len(f.Toks):
		return f.Toks[tok].From
	case tok > 0:
		return f.Toks[tok-1].To
	}
	return 0
}

// punctuates reports whether tokens of that kind only hold the parts of a node together.
func punctuates(kind int) bool {
	switch kind {
	case api.TkLparen, api.TkRparen, api.TkLbrack, api.TkRbrack, api.TkLbrace, api.TkRbrace,
		api.TkComma, api.TkPeriod, api.TkColon, api.TkSemi:
		return true
	}
	return false
}
