package tree

import (
	"testing"

	"cavil/api"
)

// P13.1: there is nothing to look at, whatever the number of tokens is.
func TestNoNodes(t *testing.T) {
	for _, x := range []api.Tree{{}, {Nodes: []api.Node{}}} {
		for _, tokens := range []int{least, -1, 0, 1, most} {
			expectCheck(t, x, tokens, api.ErrNone)
		}
		expectFault(t, x, api.ErrNone)
	}
}

// P13.1: the numbers of tokens from the one that the root reaches to.
func TestCheckTokens(t *testing.T) {
	for _, s := range shapes() {
		to := reach(s.tree)
		for _, tokens := range []int{to, to + 1, to + 2, 1000, most} {
			expectCheck(t, s.tree, tokens, nil)
		}
		for tokens := -2; tokens < to; tokens++ {
			expectCheck(t, s.tree, tokens, checkByWords(s.tree, tokens))
		}
	}
	// The first node that is beyond the tokens is at fault, not the root.
	x := of(node(2, 0, 1), node(3, 1, 3), node(4, 3, 4), node(1, 0, 5, 0, 1, 2))
	expectCheck(t, x, 5, nil)
	expectCheck(t, x, 4, broken(3))
	expectCheck(t, x, 3, broken(2))
	expectCheck(t, x, 2, broken(1))
	expectCheck(t, x, 1, broken(1))
	expectCheck(t, x, 0, broken(0))
	expectCheck(t, x, -1, broken(0))
	expectCheck(t, x, least, broken(0))
}

// P13.1: a negative number of tokens is less than every To.
func TestNegativeTokens(t *testing.T) {
	for _, tokens := range []int{-1, -2, least} {
		expectCheck(t, of(node(0, 0, 0)), tokens, broken(0))
		expectCheck(t, of(node(0, tokens, tokens)), tokens, broken(0))
		expectCheck(t, of(node(0, 0, tokens)), tokens, broken(0))
		expectCheck(t, of(node(0, 0, 0), node(0, 0, 0, 0)), tokens, broken(0))
		expectFault(t, of(node(1, 0, tokens)), broken(0))
		expectFault(t, of(node(1, tokens, tokens)), broken(0))
		expectFault(t, of(node(0, 0, 0), node(1, 0, tokens, 0)), broken(0))
		expectFault(t, of(node(0, tokens, tokens), node(1, tokens, tokens, 0)), broken(0))
	}
}

// P13.1: each node's own numbers, at the first node, at one in the middle and at the root.
func TestCheckNumbers(t *testing.T) {
	valid := func() []api.Node {
		return []api.Node{node(2, 1, 2), node(3, 1, 3, 0), node(4, 3, 3), node(1, 0, 4, 1, 2)}
	}
	expectCheck(t, of(valid()...), 4, nil)
	for i := range valid() {
		for _, kind := range []int{least, -67, -1, 67, 68, 1000, most} {
			l := valid()
			l[i].Kind = kind
			expectCheck(t, of(l...), 4, broken(i))
			expectFault(t, of(l...), broken(i))
		}
		for kind := 0; kind <= 66; kind++ {
			l := valid()
			l[i].Kind = kind
			expectCheck(t, of(l...), 4, nil)
			expectWords(t, of(l...))
		}
		for _, from := range []int{least, -2, -1, 5, 6, most} {
			l := valid()
			l[i].From = from
			expectCheck(t, of(l...), 4, broken(i))
			expectFault(t, of(l...), broken(i))
		}
		for _, to := range []int{least, -1, 5, 6, most} {
			l := valid()
			l[i].To = to
			expectCheck(t, of(l...), 4, broken(i))
		}
	}
}

// wrong is a tree that is not valid for some tokens, and the node that is at fault.
type wrong struct {
	about  string
	tokens int
	at     int
	l      []api.Node
}

// wrongNumbers are trees in which a node's own numbers are at fault.
func wrongNumbers() []wrong {
	return []wrong{
		{"Kind below 0", 1, 0, []api.Node{node(-1, 0, 1)}},
		{"Kind beyond NdBinary", 1, 0, []api.Node{node(67, 0, 1)}},
		{"From below 0", 1, 0, []api.Node{node(1, -1, 1)}},
		{"From and To below 0", 1, 0, []api.Node{node(1, -1, -1)}},
		{"From beyond To", 2, 0, []api.Node{node(1, 2, 1)}},
		{"From beyond To, both in the root", 3, 0, []api.Node{node(2, 2, 1), node(1, 0, 3, 0)}},
		{"To beyond the tokens", 1, 0, []api.Node{node(1, 0, 2)}},
		{"From and To beyond the tokens", 1, 0, []api.Node{node(1, 2, 2)}},
		{"To of a child alone beyond the tokens", 2, 0, []api.Node{node(2, 0, 3), node(1, 0, 2, 0)}},
	}
}

// wrongKids are trees in which Kids are at fault by themselves.
func wrongKids() []wrong {
	return []wrong{
		{"negative", 2, 1, []api.Node{node(2, 0, 1), node(1, 0, 2, -1)}},
		{"negative behind a child", 2, 1, []api.Node{node(2, 0, 1), node(1, 0, 2, 0, -1)}},
		{"least", 2, 1, []api.Node{node(2, 0, 1), node(1, 0, 2, least)}},
		{"negative of the first node", 2, 0, []api.Node{node(2, 0, 1, -1), node(1, 0, 2, 0)}},
		{"its own index", 2, 1, []api.Node{node(2, 0, 1), node(3, 1, 2, 1), node(1, 0, 2, 0, 1)}},
		{"its own index behind a child", 2, 1, []api.Node{node(2, 0, 1), node(3, 0, 2, 0, 1), node(1, 0, 2, 1)}},
		{"the root its own child", 1, 0, []api.Node{node(1, 0, 1, 0)}},
		{"the root its own child behind a child", 2, 1, []api.Node{node(2, 0, 1), node(1, 0, 2, 0, 1)}},
		{"the root its own child without tokens", 0, 1, []api.Node{node(2, 0, 0), node(1, 0, 0, 0, 1)}},
		{"a greater one", 2, 0, []api.Node{node(2, 0, 1, 1), node(3, 0, 1), node(1, 0, 2, 0)}},
		{"the root", 1, 0, []api.Node{node(2, 0, 1, 1), node(1, 0, 1, 0)}},
		{"the root without tokens", 0, 1, []api.Node{node(2, 0, 0), node(3, 0, 0, 2), node(1, 0, 0, 0, 1)}},
		{"just beyond the list", 2, 1, []api.Node{node(2, 0, 1), node(1, 0, 2, 2)}},
		{"beyond the list behind a child", 2, 1, []api.Node{node(2, 0, 1), node(1, 0, 2, 0, 3)}},
		{"most", 2, 1, []api.Node{node(2, 0, 1), node(1, 0, 2, most)}},
		{"beyond the list of the first node", 2, 0, []api.Node{node(2, 0, 1, 1000), node(1, 0, 2, 0)}},
	}
}

// wrongOrder are trees in which children are not in order.
func wrongOrder() []wrong {
	return []wrong{
		{"out of order", 2, 2, []api.Node{node(2, 0, 1), node(3, 1, 2), node(1, 0, 2, 1, 0)}},
		{"out of order behind one in order", 3, 3, []api.Node{node(2, 0, 1), node(3, 2, 3), node(4, 1, 2), node(1, 0, 3, 0, 1, 2)}},
		{"overlapping", 3, 2, []api.Node{node(2, 0, 2), node(3, 1, 3), node(1, 0, 3, 0, 1)}},
		{"one within the other", 3, 2, []api.Node{node(2, 0, 3), node(3, 1, 2), node(1, 0, 3, 0, 1)}},
		{"over the same tokens", 2, 2, []api.Node{node(2, 0, 2), node(3, 0, 2), node(1, 0, 2, 0, 1)}},
		{"without tokens within the one before", 2, 2, []api.Node{node(2, 0, 2), node(3, 1, 1), node(1, 0, 2, 0, 1)}},
		{"without tokens where the one before begins", 2, 2, []api.Node{node(2, 0, 2), node(3, 0, 0), node(1, 0, 2, 0, 1)}},
		{"without tokens, out of order", 2, 2, []api.Node{node(2, 1, 1), node(3, 0, 0), node(1, 0, 2, 0, 1)}},
		{"beginning ahead of the parent", 3, 1, []api.Node{node(2, 0, 2), node(3, 1, 3, 0), node(1, 0, 3, 1)}},
		{"beginning ahead of the root", 3, 1, []api.Node{node(2, 0, 2), node(1, 1, 3, 0)}},
		{"all of it ahead of the root", 5, 1, []api.Node{node(2, 0, 2), node(1, 3, 5, 0)}},
		{"without tokens ahead of the root", 2, 1, []api.Node{node(2, 0, 0), node(1, 1, 2, 0)}},
		{"ending behind the parent", 3, 1, []api.Node{node(2, 1, 3), node(3, 0, 2, 0), node(1, 0, 3, 1)}},
		{"ending behind the root", 3, 1, []api.Node{node(2, 1, 3), node(1, 0, 2, 0)}},
		{"the last one ending behind the root", 3, 2, []api.Node{node(2, 0, 1), node(3, 1, 3), node(1, 0, 2, 0, 1)}},
		{"one in the middle ending behind the root", 4, 3, []api.Node{node(2, 0, 1), node(3, 1, 4), node(4, 4, 4), node(1, 0, 2, 0, 1, 2)}},
		{"one in the middle ending behind the root, the last one in it", 4, 3, []api.Node{node(2, 0, 1), node(3, 1, 4), node(4, 2, 2), node(1, 0, 2, 0, 1, 2)}},
		{"all of it behind the parent", 5, 1, []api.Node{node(2, 3, 4), node(3, 0, 2, 0), node(1, 0, 5, 1)}},
		{"without tokens behind the parent", 3, 1, []api.Node{node(2, 2, 2), node(3, 0, 1, 0), node(1, 0, 3, 1)}},
		{"with tokens, of a node without", 2, 1, []api.Node{node(2, 1, 2), node(3, 1, 1, 0), node(1, 0, 2, 1)}},
		{"with tokens, one node twice", 1, 1, []api.Node{node(2, 0, 1), node(1, 0, 1, 0, 0)}},
	}
}

// wrongParents are trees in which a node has not exactly one parent.
func wrongParents() []wrong {
	return []wrong{
		{"no child", 2, 0, []api.Node{node(2, 0, 1), node(1, 0, 2)}},
		{"no child, behind the root", 3, 0, []api.Node{node(2, 2, 3), node(1, 0, 1)}},
		{"no child, ahead of the root", 5, 0, []api.Node{node(2, 0, 2), node(1, 3, 5)}},
		{"no child, with children", 2, 1, []api.Node{node(2, 0, 1), node(3, 0, 1, 0), node(1, 0, 2)}},
		{"no child, between two that are", 3, 1, []api.Node{node(2, 0, 1), node(3, 1, 2), node(4, 2, 3), node(1, 0, 3, 0, 2)}},
		{"no child, the last but one", 2, 1, []api.Node{node(2, 0, 1), node(3, 1, 2), node(1, 0, 2, 0)}},
		{"no child, without tokens", 0, 0, []api.Node{node(2, 0, 0), node(1, 0, 0)}},
		{"of two nodes, one above the other", 1, 0, []api.Node{node(2, 0, 0), node(3, 0, 1, 0), node(1, 0, 1, 0, 1)}},
		{"of two nodes beside each other", 2, 0, []api.Node{node(2, 1, 1), node(3, 0, 1, 0), node(4, 1, 2, 0), node(1, 0, 2, 1, 2)}},
		{"of two nodes, with tokens", 2, 0, []api.Node{node(2, 0, 1), node(3, 0, 1, 0), node(1, 0, 2, 0)}},
		{"of two nodes, the second one", 2, 1, []api.Node{node(2, 0, 1), node(3, 1, 1), node(4, 1, 2, 1), node(1, 0, 2, 0, 1, 2)}},
		{"of three nodes", 0, 0, []api.Node{node(2, 0, 0), node(3, 0, 0, 0), node(4, 0, 0, 0, 1), node(1, 0, 0, 0, 2)}},
		{"of one node twice", 1, 0, []api.Node{node(2, 0, 0), node(1, 0, 1, 0, 0)}},
		{"of one node three times", 1, 0, []api.Node{node(2, 1, 1), node(1, 0, 1, 0, 0, 0)}},
		{"of one node twice, with another between", 1, 0, []api.Node{node(2, 0, 0), node(3, 0, 0), node(1, 0, 1, 0, 1, 0)}},
	}
}

// wrongTwice are trees with several violations.
func wrongTwice() []wrong {
	return []wrong{
		{"numbers of two nodes", 2, 0, []api.Node{node(2, 2, 1), node(67, 0, 2, 0)}},
		{"numbers of the last two nodes", 2, 1, []api.Node{node(2, 0, 1), node(-1, 1, 2), node(1, 0, 3, 0, 1)}},
		{"numbers behind children", 2, 1, []api.Node{node(2, 0, 1), node(3, 1, 2, 0), node(67, 0, 2, 1)}},
		{"children behind numbers", 2, 0, []api.Node{node(67, 0, 1), node(3, 1, 2, 0), node(1, 0, 2, 1)}},
		{"children of two nodes", 2, 1, []api.Node{node(2, 0, 1), node(3, 1, 2, 0), node(1, 0, 2, 1, 5)}},
		{"numbers behind no child", 2, 1, []api.Node{node(2, 0, 1), node(67, 0, 2)}},
		{"numbers of the root behind no child", 2, 2, []api.Node{node(2, 0, 1), node(3, 1, 2), node(1, -1, 2, 1)}},
		{"children behind no child", 2, 2, []api.Node{node(2, 0, 1), node(3, 0, 2), node(1, 0, 1, 1)}},
		{"Kids behind no child", 2, 2, []api.Node{node(2, 0, 1), node(3, 0, 2), node(1, 0, 2, 2)}},
		{"Kids behind a child of two nodes", 2, 3, []api.Node{node(2, 0, 0), node(3, 0, 1, 0), node(4, 1, 2), node(1, 0, 2, 0, 1, -1)}},
		{"no child behind a child of one node twice", 2, 0, []api.Node{node(2, 0, 0), node(3, 1, 2), node(1, 0, 2, 0, 0)}},
		{"a child of one node twice behind no child", 2, 0, []api.Node{node(2, 0, 1), node(3, 1, 1), node(1, 0, 2, 1, 1)}},
		{"no child twice", 3, 0, []api.Node{node(2, 0, 1), node(3, 1, 2), node(1, 0, 3)}},
		{"no child twice, behind one that is", 3, 1, []api.Node{node(2, 0, 1), node(3, 1, 2), node(4, 2, 3), node(1, 0, 3, 0)}},
		{"everything of one node", 2, 0, []api.Node{node(67, 3, -1, -1, 0, 1, 2), node(1, 0, 2, 0)}},
		{"everything of the root", 2, 1, []api.Node{node(2, 0, 1), node(-1, 3, -1, 5, 1, -1)}},
	}
}

// P13.1, P13.2
func TestCheckWrong(t *testing.T) {
	for _, l := range [][]wrong{wrongNumbers(), wrongKids(), wrongOrder(), wrongParents(), wrongTwice()} {
		for _, w := range l {
			x := of(w.l...)
			if Check(x, w.tokens) != broken(w.at) {
				t.Error(w.about)
			}
			expectCheck(t, x, w.tokens, broken(w.at))
			expectCheck(t, x, w.tokens, checkByWords(x, w.tokens))
			expectWords(t, x)
			if w.tokens == reach(x) {
				expectFault(t, x, broken(w.at))
			}
		}
	}
}

// P13.2: the To of the root is the number of tokens, so that a node that ends behind it is itself at fault.
func TestFaultByRoot(t *testing.T) {
	x := of(node(2, 0, 5), node(1, 0, 3, 0))
	expectCheck(t, x, 5, broken(1))
	expectFault(t, x, broken(0))
	x = of(node(2, 0, 1), node(3, 1, 4), node(1, 0, 3, 1))
	expectCheck(t, x, 4, broken(2))
	expectFault(t, x, broken(1))
	x = of(node(2, 0, 1), node(1, 1, 0, 0))
	expectCheck(t, x, 1, broken(1))
	expectFault(t, x, broken(0))
}
