package tree

import (
	"math"
	"slices"
	"strconv"
	"testing"

	"cavil/api"
)

const (
	least = math.MinInt
	most  = math.MaxInt
)

func node(kind, from, to int, kids ...int) api.Node {
	return api.Node{Kind: kind, From: from, To: to, Kids: kids}
}

func of(l ...api.Node) api.Tree { return api.Tree{Nodes: l} }

// broken is the error of a tree whose node i is at fault.
func broken(i int) error { return api.At{Off: i, Err: api.ErrForm} }

// reach is the To of the root, 0 if there is none.
func reach(x api.Tree) int {
	if len(x.Nodes) == 0 {
		return 0
	}
	return x.Nodes[len(x.Nodes)-1].To
}

// validNode is what the chapter's definition says of the numbers and the children of node i, word by word.
func validNode(x api.Tree, i, tokens int) bool {
	n := x.Nodes[i]
	for _, k := range n.Kids {
		if k < 0 || k >= i {
			return false
		}
	}
	ordered := true
	for j, k := range n.Kids {
		kid := x.Nodes[k]
		if j == 0 && kid.From < n.From {
			ordered = false
		}
		if j > 0 && kid.From < x.Nodes[n.Kids[j-1]].To {
			ordered = false
		}
		if j == len(n.Kids)-1 && kid.To > n.To {
			ordered = false
		}
	}
	return ordered && n.Kind >= 0 && n.Kind <= 66 && n.From >= 0 && n.From <= n.To && n.To <= tokens
}

// checkByWords is P13.1, word by word.
func checkByWords(x api.Tree, tokens int) error {
	if len(x.Nodes) == 0 {
		return api.ErrNone
	}
	for i := range x.Nodes {
		if !validNode(x, i, tokens) {
			return broken(i)
		}
	}
	for i := range len(x.Nodes) - 1 {
		if len(above(x, i)) != 1 {
			return broken(i)
		}
	}
	return nil
}

// above is the nodes that have node i as a child, each as often as it has it.
func above(x api.Tree, i int) []int {
	var l []int
	for j, n := range x.Nodes {
		for _, k := range n.Kids {
			if k == i {
				l = append(l, j)
			}
		}
	}
	return l
}

func parentsByWords(x api.Tree) []int {
	var l []int
	for i := range x.Nodes {
		l = append(l, append(above(x, i), -1)[0])
	}
	return l
}

// depthByWords takes the greatest length of the ways from each node up to the root.
func depthByWords(x api.Tree) int {
	parents, depth := parentsByWords(x), 0
	for i := range x.Nodes {
		path := 0
		for ; i >= 0; i = parents[i] {
			path++
		}
		depth = max(depth, path)
	}
	return depth
}

func ownByWords(x api.Tree, i int) []int {
	var l []int
	n := x.Nodes[i]
	for tok := n.From; tok < n.To; tok++ {
		if !slices.ContainsFunc(n.Kids, func(k int) bool { return x.Nodes[k].From <= tok && tok < x.Nodes[k].To }) {
			l = append(l, tok)
		}
	}
	return l
}

// ownersByWords takes each node's own tokens.
func ownersByWords(x api.Tree) []int {
	l := slices.Repeat([]int{-1}, reach(x))
	for i := range x.Nodes {
		for _, tok := range ownByWords(x, i) {
			l[tok] = i
		}
	}
	return l
}

// textByWords is P13.4, word by word: at each position first the children that begin there, then the token.
func textByWords(x api.Tree, i int) string {
	n := x.Nodes[i]
	s := "(" + strconv.Itoa(n.Kind)
	own := ownByWords(x, i)
	for at := n.From; at <= n.To; at++ {
		for _, k := range n.Kids {
			if x.Nodes[k].From == at {
				s += " " + textByWords(x, k)
			}
		}
		if slices.Contains(own, at) {
			s += " " + strconv.Itoa(at)
		}
	}
	return s + ")"
}

// show is a tree as a test tells it.
func show(x api.Tree) string {
	s := ""
	for i, n := range x.Nodes {
		s += " " + strconv.Itoa(i) + ": " + strconv.Itoa(n.Kind) + " " + strconv.Itoa(n.From) + ".." + strconv.Itoa(n.To)
		for _, k := range n.Kids {
			s += " <" + strconv.Itoa(k)
		}
		s += ";"
	}
	return "{" + s + "}"
}

// The functions below expect an answer and no error, or an error, alone, and nothing beside it.

func expectCheck(t *testing.T, x api.Tree, tokens int, wrong error) {
	t.Helper()
	if e := Check(x, tokens); e != wrong {
		t.Errorf("Check(%s, %d) = %#v, want %#v", show(x), tokens, e, wrong)
	}
}

func expectDepth(t *testing.T, x api.Tree, want int, wrong error) {
	t.Helper()
	if got, e := Depth(x); got != want || e != wrong {
		t.Errorf("Depth(%s) = %d, %#v, want %d, %#v", show(x), got, e, want, wrong)
	}
}

func expectParents(t *testing.T, x api.Tree, want []int, wrong error) {
	t.Helper()
	if got, e := Parents(x); !slices.Equal(got, want) || e != wrong {
		t.Errorf("Parents(%s) = %v, %#v, want %v, %#v", show(x), got, e, want, wrong)
	}
}

func expectOwn(t *testing.T, x api.Tree, n int, want []int, wrong error) {
	t.Helper()
	if got, e := Own(x, n); !slices.Equal(got, want) || e != wrong {
		t.Errorf("Own(%s, %d) = %v, %#v, want %v, %#v", show(x), n, got, e, want, wrong)
	}
}

func expectOwners(t *testing.T, x api.Tree, want []int, wrong error) {
	t.Helper()
	if got, e := Owners(x); !slices.Equal(got, want) || e != wrong {
		t.Errorf("Owners(%s) = %v, %#v, want %v, %#v", show(x), got, e, want, wrong)
	}
}

func expectAt(t *testing.T, x api.Tree, tok, want int, wrong error) {
	t.Helper()
	if got, e := At(x, tok); got != want || e != wrong {
		t.Errorf("At(%s, %d) = %d, %#v, want %d, %#v", show(x), tok, got, e, want, wrong)
	}
}

func expectText(t *testing.T, x api.Tree, want string, wrong error) {
	t.Helper()
	if got, e := Text(x); got != want || e != wrong {
		t.Errorf("Text(%s) = %s, %#v, want %s, %#v", show(x), got, e, want, wrong)
	}
}

func expectCount(t *testing.T, x api.Tree, kind, want int) {
	t.Helper()
	if got := Count(x, kind); got != want {
		t.Errorf("Count(%s, %d) = %d, want %d", show(x), kind, got, want)
	}
}

// expectFault expects of every call but Check and Count the same error.
func expectFault(t *testing.T, x api.Tree, wrong error) {
	t.Helper()
	expectDepth(t, x, 0, wrong)
	expectParents(t, x, nil, wrong)
	expectOwners(t, x, nil, wrong)
	expectText(t, x, "", wrong)
	for n := -1; n <= len(x.Nodes); n++ {
		expectOwn(t, x, n, nil, wrong)
		expectAt(t, x, n, 0, wrong)
	}
}

// expectWords holds the calls but Check and Count against the promises for a tree of few tokens: those around its nodes and its tokens are asked for too.
func expectWords(t *testing.T, x api.Tree) {
	t.Helper()
	if wrong := checkByWords(x, reach(x)); wrong != nil {
		expectFault(t, x, wrong)
		return
	}
	expectDepth(t, x, depthByWords(x), nil)
	expectParents(t, x, parentsByWords(x), nil)
	owners := ownersByWords(x)
	expectOwners(t, x, owners, nil)
	expectText(t, x, textByWords(x, len(x.Nodes)-1), nil)
	for n := -2; n < len(x.Nodes)+2; n++ {
		if n < 0 || n >= len(x.Nodes) {
			expectOwn(t, x, n, nil, api.ErrRange)
		} else {
			expectOwn(t, x, n, ownByWords(x, n), nil)
		}
	}
	for tok := -2; tok < len(owners)+2; tok++ {
		if tok < 0 || tok >= len(owners) || owners[tok] < 0 {
			expectAt(t, x, tok, 0, api.ErrRange)
		} else {
			expectAt(t, x, tok, owners[tok], nil)
		}
	}
}
