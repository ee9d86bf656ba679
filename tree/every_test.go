package tree

import (
	"slices"
	"testing"

	"cavil/api"
)

// lists calls f with all lists of at most n numbers from from to below to.
func lists(n, from, to int, f func(l []int)) {
	var grow func(l []int)
	grow = func(l []int) {
		f(l)
		for k := from; k < to && len(l) < n; k++ {
			grow(append(slices.Clone(l), k))
		}
	}
	grow(nil)
}

// nodes calls f with all nodes of some kinds with a From and a To from from to below to, and each of the lists of children.
func nodes(kinds []int, from, to int, kids [][]int, f func(n api.Node)) {
	for _, kind := range kinds {
		for a := from; a < to; a++ {
			for b := from; b < to; b++ {
				for _, l := range kids {
					f(node(kind, a, b, l...))
				}
			}
		}
	}
}

// P13.1: all lists of one and of two nodes with small numbers, valid ones or not, over each small number of tokens.
func TestCheckEveryPair(t *testing.T) {
	const from, to = -1, 3
	var few, many [][]int
	lists(1, -1, 2, func(l []int) { few = append(few, l) })
	lists(2, -1, 3, func(l []int) { many = append(many, l) })
	expectAll := func(l ...api.Node) {
		for tokens := from; tokens < to; tokens++ {
			expectCheck(t, of(l...), tokens, checkByWords(of(l...), tokens))
		}
	}
	kinds := []int{-1, 2, 67}
	nodes(kinds, from, to, many, func(n api.Node) { expectAll(n) })
	nodes(kinds, from, to, few, func(a api.Node) {
		nodes(kinds, from, to, many, func(b api.Node) { expectAll(a, b) })
	})
}

// P13.1 to P13.5: all lists of three and four nodes with a From that is not beyond the To, with all lists of children that stand ahead of their parents, valid ones or not.
func TestEveryList(t *testing.T) {
	const tokens = 2
	var grow func(l []api.Node, n int)
	grow = func(l []api.Node, n int) {
		if len(l) == n {
			expectCheck(t, of(l...), tokens, checkByWords(of(l...), tokens))
			if Check(of(l...), tokens) == nil || n < 4 {
				expectWords(t, of(l...))
				expectOwned(t, of(l...))
			}
			return
		}
		var kids [][]int
		lists(min(len(l), 3), 0, len(l), func(k []int) { kids = append(kids, k) })
		nodes([]int{len(l) + 8}, 0, tokens+1, kids, func(x api.Node) {
			if x.From <= x.To {
				grow(append(slices.Clone(l), x), n)
			}
		})
	}
	for n := 1; n <= 4; n++ {
		grow(nil, n)
	}
}

// trees calls f with all valid trees of n nodes over tokens tokens at most; nodes without tokens at one position are in the order of their indices, or, with back, the other way round.
func trees(n, tokens int, back bool, f func(x api.Tree)) {
	parents := make([]int, n)
	var choose func(l []api.Node)
	choose = func(l []api.Node) {
		i := len(l)
		if i == n {
			x := withKids(l, parents, back)
			if checkByWords(x, tokens) == nil {
				f(x)
			}
			return
		}
		nodes([]int{i + 9}, 0, tokens+1, [][]int{nil}, func(x api.Node) {
			if x.From > x.To {
				return
			}
			l := append(l[:i:i], x)
			if i == n-1 {
				choose(l)
			}
			for parents[i] = i + 1; parents[i] < n; parents[i]++ {
				choose(l)
			}
		})
	}
	choose(nil)
}

// withKids is a tree in which the parents of nodes are as told, with the children of each node in order of position.
func withKids(l []api.Node, parents []int, back bool) api.Tree {
	l = slices.Clone(l)
	for i := range len(l) - 1 {
		p := parents[i]
		l[p].Kids = append(l[p].Kids, i)
	}
	for i := range l {
		if back {
			slices.Reverse(l[i].Kids)
		}
		// Of two nodes that do not overlap, only those without tokens at one position have the same sum.
		slices.SortStableFunc(l[i].Kids, func(a, b int) int {
			return l[a].From + l[a].To - l[b].From - l[b].To
		})
	}
	return of(l...)
}

// expectOwned is P13.5, word by word: each token of the root is an own token of exactly one node, no other token is one of any.
func expectOwned(t *testing.T, x api.Tree) {
	t.Helper()
	if Check(x, reach(x)) != nil {
		return
	}
	times := make([]int, reach(x))
	for n := range x.Nodes {
		own, e := Own(x, n)
		if e != nil {
			t.Fatalf("Own(%s, %d): %v", show(x), n, e)
		}
		for _, tok := range own {
			times[tok]++
			if at, e := At(x, tok); at != n || e != nil {
				t.Errorf("At(%s, %d) = %d, %v, want %d", show(x), tok, at, e, n)
			}
		}
	}
	from := x.Nodes[len(x.Nodes)-1].From
	if !slices.Equal(times, slices.Concat(make([]int, from), slices.Repeat([]int{1}, len(times)-from))) {
		t.Errorf("%s: owners of each token: %v", show(x), times)
	}
}

// P13.1 to P13.5: all valid trees of up to five nodes over few tokens.
func TestEveryTree(t *testing.T) {
	count := 0
	each := func(x api.Tree) {
		count++
		expectCheck(t, x, reach(x), nil)
		expectWords(t, x)
		expectOwned(t, x)
	}
	for _, back := range []bool{false, true} {
		for n := 1; n <= 3; n++ {
			trees(n, 4, back, each)
		}
		trees(4, 3, back, each)
		trees(5, 2, back, each)
	}
	if count < 10000 {
		t.Errorf("%d trees only", count)
	}
}
