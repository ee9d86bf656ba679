package tree

import "cavil/api"

// What a step of a walk does.
const (
	into = iota
	over
	out
)

// step is a step of a walk: into a node, over own tokens of it, which are those from from to below to, or out of it.
type step struct {
	kind, node, from, to int
}

// place is where a walk is in a node: ahead of its child at index kid, and behind all of its tokens ahead of tok.
type place struct {
	node, kid, tok int
}

// walk goes through all of a valid tree in order of position, and calls act at each step.
func walk(t api.Tree, act func(s step)) {
	var stack []place
	enter := func(n int) {
		act(step{kind: into, node: n})
		stack = append(stack, place{node: n, tok: t.Nodes[n].From})
	}
	enter(root(t))
	for len(stack) > 0 {
		p := &stack[len(stack)-1]
		n := t.Nodes[p.node]
		if p.kid == len(n.Kids) {
			act(step{kind: over, node: p.node, from: p.tok, to: n.To})
			act(step{kind: out, node: p.node})
			stack = stack[:len(stack)-1]
			continue
		}
		kid := n.Kids[p.kid]
		act(step{kind: over, node: p.node, from: p.tok, to: t.Nodes[kid].From})
		p.kid++
		p.tok = t.Nodes[kid].To
		enter(kid)
	}
}
