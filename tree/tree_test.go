package tree

import (
	"slices"
	"strconv"
	"strings"
	"testing"

	"cavil/api"
)

// shape is a valid tree, and what the calls tell of it.
type shape struct {
	tree    api.Tree
	text    string
	depth   int
	parents []int
	owners  []int
}

// rootShapes are trees of the root alone.
func rootShapes() []shape {
	return []shape{
		{of(node(0, 0, 0)), "(0)", 1, []int{-1}, nil},
		{of(node(1, 0, 1)), "(1 0)", 1, []int{-1}, []int{0}},
		{of(node(66, 0, 3)), "(66 0 1 2)", 1, []int{-1}, []int{0, 0, 0}},
		{of(node(10, 2, 4)), "(10 2 3)", 1, []int{-1}, []int{-1, -1, 0, 0}},
		{of(node(5, 2, 2)), "(5)", 1, []int{-1}, []int{-1, -1}},
		{of(node(32, 9, 12)), "(32 9 10 11)", 1, []int{-1}, []int{-1, -1, -1, -1, -1, -1, -1, -1, -1, 0, 0, 0}},
	}
}

// fullShapes are trees whose nodes below the root have tokens.
func fullShapes() []shape {
	return []shape{
		{of(node(2, 0, 1), node(1, 0, 2, 0)), "(1 (2 0) 1)", 2, []int{1, -1}, []int{0, 1}},
		{of(node(2, 1, 2), node(1, 0, 2, 0)), "(1 0 (2 1))", 2, []int{1, -1}, []int{1, 0}},
		{of(node(2, 0, 3), node(1, 0, 3, 0)), "(1 (2 0 1 2))", 2, []int{1, -1}, []int{0, 0, 0}},
		{of(node(2, 0, 1), node(2, 1, 3), node(1, 0, 3, 0, 1)), "(1 (2 0) (2 1 2))", 2, []int{2, 2, -1}, []int{0, 1, 1}},
		{of(node(2, 1, 2), node(3, 3, 4), node(1, 0, 5, 0, 1)), "(1 0 (2 1) 2 (3 3) 4)", 2, []int{2, 2, -1}, []int{2, 0, 2, 1, 2}},
		// The order of the indices is not that of the positions.
		{of(node(2, 2, 3), node(3, 0, 1), node(1, 0, 3, 1, 0)), "(1 (3 0) 1 (2 2))", 2, []int{2, 2, -1}, []int{1, 2, 0}},
		{of(node(2, 1, 2), node(4, 3, 4), node(3, 3, 5, 1), node(5, 1, 3, 0), node(1, 0, 6, 3, 2)), "(1 0 (5 (2 1) 2) (3 (4 3) 4) 5)", 3, []int{3, 2, 4, 4, -1}, []int{4, 0, 3, 1, 2, 4}},
		{of(node(2, 2, 3), node(1, 2, 4, 0)), "(1 (2 2) 3)", 2, []int{1, -1}, []int{-1, -1, 0, 1}},
		{of(node(2, 2, 3), node(1, 1, 4, 0)), "(1 1 (2 2) 3)", 2, []int{1, -1}, []int{-1, 1, 0, 1}},
		// The root has many own tokens on both sides.
		{of(node(60, 4, 5), node(0, 0, 12, 0)), "(0 0 1 2 3 (60 4) 5 6 7 8 9 10 11)", 2, []int{1, -1}, []int{1, 1, 1, 1, 0, 1, 1, 1, 1, 1, 1, 1}},
		// Two ways down, of which the first one is the longer one.
		{of(node(6, 0, 1), node(7, 0, 2, 0), node(8, 0, 2, 1), node(9, 2, 3), node(1, 0, 3, 2, 3)), "(1 (8 (7 (6 0) 1)) (9 2))", 4, []int{1, 2, 4, 4, -1}, []int{0, 1, 3}},
		// And the last one.
		{of(node(9, 0, 1), node(6, 1, 2), node(7, 1, 2, 1), node(8, 1, 3, 2), node(1, 0, 3, 0, 3)), "(1 (9 0) (8 (7 (6 1)) 2))", 4, []int{4, 2, 3, 4, -1}, []int{0, 1, 3}},
		{of(node(6, 1, 2), node(7, 0, 2, 0), node(2, 3, 4), node(2, 5, 6), node(22, 4, 6, 3), node(13, 3, 6, 2, 4), node(12, 2, 6, 5), node(1, 0, 7, 1, 6)), "(1 (7 0 (6 1)) (12 2 (13 (2 3) (22 4 (2 5)))) 6)", 5, []int{1, 7, 5, 4, 5, 6, 7, -1}, []int{1, 0, 6, 2, 4, 3, 7}},
	}
}

// emptyShapes are trees with nodes without tokens below the root.
func emptyShapes() []shape {
	return []shape{
		{of(node(0, 0, 0), node(1, 0, 2, 0)), "(1 (0) 0 1)", 2, []int{1, -1}, []int{1, 1}},
		{of(node(0, 1, 1), node(1, 0, 2, 0)), "(1 0 (0) 1)", 2, []int{1, -1}, []int{1, 1}},
		{of(node(0, 2, 2), node(1, 0, 2, 0)), "(1 0 1 (0))", 2, []int{1, -1}, []int{1, 1}},
		{of(node(0, 0, 0), node(1, 0, 0, 0)), "(1 (0))", 2, []int{1, -1}, nil},
		{of(node(2, 3, 3), node(3, 3, 3), node(1, 3, 3, 1, 0)), "(1 (3) (2))", 2, []int{2, 2, -1}, []int{-1, -1, -1}},
		{of(node(2, 1, 1), node(3, 1, 1), node(4, 1, 1), node(1, 0, 2, 0, 1, 2)), "(1 0 (2) (3) (4) 1)", 2, []int{3, 3, 3, -1}, []int{3, 3}},
		{of(node(2, 1, 1), node(3, 1, 1), node(4, 1, 1), node(1, 0, 2, 2, 0, 1)), "(1 0 (4) (2) (3) 1)", 2, []int{3, 3, 3, -1}, []int{3, 3}},
		{of(node(2, 0, 0), node(3, 0, 0), node(4, 2, 2), node(5, 2, 2), node(1, 0, 2, 1, 0, 2, 3)), "(1 (3) (2) 0 1 (4) (5))", 2, []int{4, 4, 4, 4, -1}, []int{4, 4}},
		// One on each side of a child with tokens.
		{of(node(2, 1, 1), node(3, 1, 2), node(4, 2, 2), node(1, 0, 3, 0, 1, 2)), "(1 0 (2) (3 1) (4) 2)", 2, []int{3, 3, 3, -1}, []int{3, 1, 3}},
		// At the positions of all own tokens.
		{of(node(2, 0, 0), node(3, 1, 1), node(4, 2, 2), node(1, 0, 2, 0, 1, 2)), "(1 (2) 0 (3) 1 (4))", 2, []int{3, 3, 3, -1}, []int{3, 3}},
		// Below each other.
		{of(node(2, 1, 1), node(3, 1, 1, 0), node(1, 0, 2, 1)), "(1 0 (3 (2)) 1)", 3, []int{1, 2, -1}, []int{2, 2}},
		// At the end of a child, where the next one begins.
		{of(node(0, 2, 2), node(3, 1, 2, 0), node(4, 2, 3), node(1, 0, 4, 1, 2)), "(1 0 (3 1 (0)) (4 2) 3)", 3, []int{1, 3, 3, -1}, []int{3, 1, 2, 3}},
		{of(node(0, 2, 2), node(3, 1, 2), node(4, 2, 3, 0), node(1, 0, 4, 1, 2)), "(1 0 (3 1) (4 (0) 2) 3)", 3, []int{2, 3, 3, -1}, []int{3, 1, 2, 3}},
		{of(node(0, 2, 2), node(3, 1, 2), node(4, 2, 3), node(1, 0, 4, 1, 0, 2)), "(1 0 (3 1) (0) (4 2) 3)", 2, []int{3, 3, 3, -1}, []int{3, 1, 2, 3}},
		{of(node(0, 2, 2), node(1, 2, 3, 0)), "(1 (0) 2)", 2, []int{1, -1}, []int{-1, -1, 1}},
	}
}

func shapes() []shape {
	return slices.Concat(rootShapes(), fullShapes(), emptyShapes())
}

// P13.2, P13.4
func TestShapes(t *testing.T) {
	for _, s := range shapes() {
		expectDepth(t, s.tree, s.depth, nil)
		expectParents(t, s.tree, s.parents, nil)
		expectOwners(t, s.tree, s.owners, nil)
		expectText(t, s.tree, s.text, nil)
		expectWords(t, s.tree)
	}
}

// P13.2
func TestOwn(t *testing.T) {
	x := of(node(2, 1, 2), node(0, 2, 2), node(3, 3, 5), node(4, 1, 6, 0, 1, 2), node(1, 0, 7, 3))
	for n, want := range [][]int{{1}, nil, {3, 4}, {2, 5}, {0, 6}} {
		expectOwn(t, x, n, want, nil)
	}
	for _, n := range []int{least, -5, -1, 5, 6, most} {
		expectOwn(t, x, n, nil, api.ErrRange)
	}
	// The error of Check is the first one.
	for _, n := range []int{least, -1, 0, 1, 2, most} {
		expectOwn(t, of(node(2, 0, 1), node(1, 0, 2)), n, nil, broken(0))
		expectOwn(t, of(), n, nil, api.ErrNone)
	}
}

// P13.2
func TestAt(t *testing.T) {
	x := of(node(0, 2, 2), node(2, 2, 3), node(4, 4, 4), node(3, 3, 5, 2), node(5, 6, 6), node(1, 2, 6, 0, 1, 3, 4))
	for tok, want := range map[int]int{2: 1, 3: 3, 4: 3, 5: 5} {
		expectAt(t, x, tok, want, nil)
	}
	for _, tok := range []int{least, -2, -1, 0, 1, 6, 7, most} {
		expectAt(t, x, tok, 0, api.ErrRange)
		expectAt(t, of(node(1, 0, 0)), tok, 0, api.ErrRange)
		expectAt(t, of(node(2, 0, 1), node(1, 0, 2)), tok, 0, broken(0))
		expectAt(t, of(), tok, 0, api.ErrNone)
	}
}

// P13.3: every kind, k%5 times each, in lists that are no trees.
func TestCount(t *testing.T) {
	var l []api.Node
	for kind := range 67 {
		for range kind % 5 {
			l = append(l, node(kind, 0, 0))
		}
	}
	for kind := range 67 {
		expectCount(t, of(l...), kind, kind%5)
		expectCount(t, of(), kind, 0)
		expectCount(t, of(node(kind, 0, 1), node((kind+1)%67, 0, 1, 0)), kind, 1)
		expectCount(t, of(node(kind, 0, 1), node(kind, 0, 1, 0)), kind, 2)
	}
	for _, kind := range []int{least, -67, -1, 67, 68, 1000, most} {
		expectCount(t, of(l...), kind, 0)
		expectCount(t, of(), kind, 0)
		// What is no kind is counted as it stands there.
		expectCount(t, of(node(kind, 3, -1, 7), node(1, 0, 0), node(kind, 0, 0)), kind, 2)
		expectCount(t, of(node(kind, 3, -1, 7), node(1, 0, 0), node(kind, 0, 0)), 1, 1)
	}
	for _, s := range shapes() {
		for kind := -1; kind <= 67; kind++ {
			word := "(" + strconv.Itoa(kind)
			expectCount(t, s.tree, kind, strings.Count(s.text, word+" ")+strings.Count(s.text, word+")"))
		}
	}
}
