package tree

import "cavil/api"

// Check returns what is wrong with t as a tree over a number of tokens, with the index of the first node that is at fault.
func Check(t api.Tree, tokens int) error {
	if len(t.Nodes) == 0 {
		return api.ErrNone
	}
	for i, n := range t.Nodes {
		if !numbersValid(n, tokens) || !kidsValid(t, i) {
			return malformed(i)
		}
	}
	for i, times := range timesChild(t)[:root(t)] {
		if times != 1 {
			return malformed(i)
		}
	}
	return nil
}

// check returns the error of Check for as many tokens as the To of the root.
func check(t api.Tree) error {
	if len(t.Nodes) == 0 {
		return Check(t, 0)
	}
	return Check(t, t.Nodes[root(t)].To)
}

// root returns the index of the root of a tree that has nodes.
func root(t api.Tree) int {
	return len(t.Nodes) - 1
}

// numbersValid reports whether a node's own numbers are those of a valid tree.
func numbersValid(n api.Node, tokens int) bool {
	return 0 <= n.Kind && n.Kind <= api.NdBinary && 0 <= n.From && n.From <= n.To && n.To <= tokens
}

// kidsValid reports whether the children of node i, whose own numbers are valid as are those of all nodes ahead of it, stand ahead of it and are in order.
func kidsValid(t api.Tree, i int) bool {
	end := t.Nodes[i].From
	for _, k := range t.Nodes[i].Kids {
		if k < 0 || k >= i || t.Nodes[k].From < end {
			return false
		}
		end = t.Nodes[k].To
	}
	return end <= t.Nodes[i].To
}

// timesChild returns, for each node, how many times it is a child, if all Kids are indices.
func timesChild(t api.Tree) []int {
	times := make([]int, len(t.Nodes))
	for _, n := range t.Nodes {
		for _, k := range n.Kids {
			times[k]++
		}
	}
	return times
}

// malformed returns the error of a tree whose node i is at fault.
func malformed(i int) error {
	return api.At{Off: i, Err: api.ErrForm}
}
