package parse

import "cavil/api"

// form tells from which nonterminals of G a part derives, as far as it hangs on that what may follow the part.
type form int

const (
	value    form = 1 << iota // Expr
	typed                     // T
	named                     // TName
	converts                  // NT
)

// part is a node of a tree that is not finished.
type part struct {
	kind, from, to int
	kids           []*part
	form           form
}

// as returns the part as one that derives from these nonterminals.
func (n *part) as(f form) *part {
	n.form = f
	return n
}

// is reports whether a part derives from a nonterminal.
func (n *part) is(f form) bool {
	return n.form&f != 0
}

// fits reports whether no more nodes than most are above one another in a part.
func (n *part) fits(most int) bool {
	if most == 0 {
		return false
	}
	for _, k := range n.kids {
		if !k.fits(most - 1) {
			return false
		}
	}
	return true
}

// treeOf returns the tree whose root is that part.
func treeOf(root *part) api.Tree {
	var nodes []api.Node
	var lay func(n *part) int
	lay = func(n *part) int {
		var kids []int
		for _, k := range n.kids {
			kids = append(kids, lay(k))
		}
		nodes = append(nodes, api.Node{Kind: n.kind, From: n.from, To: n.to, Kids: kids})
		return len(nodes) - 1
	}
	lay(root)
	return api.Tree{Nodes: nodes}
}
