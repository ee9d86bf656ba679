package view

import (
	"bytes"
	"errors"
	"slices"
	"testing"

	"cavil/api"
	"cavil/parse"
	"cavil/scan"
	"cavil/tree"
)

// broken is the error of a tree whose node i is at fault.
func broken(i int) error { return api.At{Off: i, Err: api.ErrForm} }

// expectNew expects the error of tree.Check, alone, or a File that holds the arguments.
func expectNew(t *testing.T, text []byte, toks []api.Token, x api.Tree, wrong error) {
	t.Helper()
	if e := tree.Check(x, len(toks)); e != wrong {
		t.Errorf("Check(%v, %d) = %#v, want %#v", x, len(toks), e, wrong)
	}
	f, e := New(text, toks, x)
	switch {
	case e != wrong || (f == nil) != (wrong != nil):
		t.Errorf("New(%q, %d tokens, %v) = %v, %#v, want %#v", text, len(toks), x, f, e, wrong)
	case f != nil && (!bytes.Equal(f.Text, text) || !slices.Equal(f.Toks, toks) || !equalTrees(f.Tree, x)):
		t.Errorf("New(%q, %v, %v) holds %s", text, toks, x, show(f))
	}
}

func equalTrees(a, b api.Tree) bool {
	return slices.EqualFunc(a.Nodes, b.Nodes, func(x, y api.Node) bool {
		return x.Kind == y.Kind && x.From == y.From && x.To == y.To && slices.Equal(x.Kids, y.Kids)
	})
}

// P15.1: files that were parsed, with syntax errors in some.
func TestNew(t *testing.T) {
	for _, text := range []string{"", "a", "package p", "package p\nvar a = 1\n", "package p\nvar = = 1\n", "\xff\x00", "package p; func f() { for a := range b { c() } }"} {
		toks, _ := scan.Tokens([]byte(text))
		x, _ := parse.File(toks)
		expectNew(t, []byte(text), toks, x, nil)
		expectPromises(t, made(t, text, toks, x))
	}
}

// P15.1: New looks at the tree and the number of tokens only: neither the text nor the tokens need to fit.
func TestNewAnyTokens(t *testing.T) {
	x := of(node(api.NdName, 0, 1), node(api.NdList, 0, 2, 0))
	for _, text := range [][]byte{nil, {}, []byte("a"), []byte("\xff")} {
		expectNew(t, text, tokensOf(1, 81), x, nil)
		expectNew(t, text, make([]api.Token, 2), x, nil)
		expectNew(t, text, []api.Token{{Kind: -1, From: most, To: least}, {Kind: most, From: least, To: -1, Auto: true, Err: 99}}, x, nil)
		expectNew(t, text, nil, of(), api.ErrNone)
		expectNew(t, text, nil, of(node(0, 0, 0)), nil)
	}
}

// P15.1: no nodes, with tokens and without.
func TestNewNoNodes(t *testing.T) {
	for _, x := range []api.Tree{{}, {Nodes: []api.Node{}}} {
		for count := range 3 {
			expectNew(t, []byte("a b c"), make([]api.Token, count), x, api.ErrNone)
		}
	}
	if _, e := New(nil, nil, api.Tree{}); !errors.Is(e, api.ErrNone) {
		t.Error(e)
	}
}

// P15.1: a tree with each number of tokens around the one that it needs.
func TestNewTokens(t *testing.T) {
	x := of(node(2, 0, 1), node(3, 1, 3), node(0, 3, 3), node(1, 0, 5, 0, 1, 2))
	for count, wrong := range []error{broken(0), broken(1), broken(1), broken(3), broken(3), nil, nil, nil} {
		expectNew(t, []byte("abc"), make([]api.Token, count), x, wrong)
	}
	expectNew(t, nil, make([]api.Token, 2), of(node(0, 3, 3)), broken(0))
	expectNew(t, nil, make([]api.Token, 3), of(node(0, 3, 3)), nil)
	expectNew(t, nil, nil, of(node(0, 0, most)), broken(0))
	text := []byte("package p\nvar a = b + c\n")
	toks, _ := scan.Tokens(text)
	y, _ := parse.File(toks)
	for count := range len(toks) {
		if f, e := New(text, toks[:count], y); f != nil || !errors.Is(e, api.ErrForm) {
			t.Errorf("%d tokens of %d: %v, %v", count, len(toks), f, e)
		}
	}
}

// P15.1: each way in which a tree over three tokens can be wrong, at the first node at fault.
func TestNewWrong(t *testing.T) {
	for _, c := range []struct {
		about string
		at    int
		l     []api.Node
	}{
		{"Kind below 0", 0, []api.Node{node(-1, 0, 3)}},
		{"Kind beyond NdBinary", 0, []api.Node{node(67, 0, 3)}},
		{"least Kind", 1, []api.Node{node(2, 0, 1), node(least, 0, 3, 0)}},
		{"From below 0", 0, []api.Node{node(2, -1, 1), node(1, 0, 3, 0)}},
		{"From beyond To", 0, []api.Node{node(2, 2, 1), node(1, 0, 3, 0)}},
		{"To beyond the tokens", 0, []api.Node{node(2, 0, 4), node(1, 0, 3, 0)}},
		{"greatest To", 1, []api.Node{node(2, 0, 1), node(1, 0, most, 0)}},
		{"a negative child", 1, []api.Node{node(2, 0, 1), node(1, 0, 3, -1)}},
		{"the least child", 1, []api.Node{node(2, 0, 1), node(1, 0, 3, 0, least)}},
		{"itself as a child", 1, []api.Node{node(2, 0, 1), node(1, 0, 3, 1)}},
		{"a later node as a child", 0, []api.Node{node(2, 0, 1, 1), node(1, 0, 3, 0)}},
		{"a child beyond the nodes", 1, []api.Node{node(2, 0, 1), node(1, 0, 3, 0, 2)}},
		{"the greatest child", 1, []api.Node{node(2, 0, 1), node(1, 0, 3, most)}},
		{"children out of order", 2, []api.Node{node(2, 1, 2), node(2, 0, 1), node(1, 0, 3, 0, 1)}},
		{"children that overlap", 2, []api.Node{node(2, 0, 2), node(2, 1, 3), node(1, 0, 3, 0, 1)}},
		{"a child ahead of its parent", 1, []api.Node{node(2, 0, 1), node(1, 1, 3, 0)}},
		{"a child behind its parent", 1, []api.Node{node(2, 2, 3), node(1, 0, 2, 0)}},
		{"no parent", 0, []api.Node{node(2, 0, 1), node(1, 0, 3)}},
		{"two parents", 0, []api.Node{node(2, 0, 0), node(2, 0, 1, 0), node(1, 0, 3, 0, 1)}},
		{"twice a child", 0, []api.Node{node(2, 0, 0), node(1, 0, 3, 0, 0)}},
		{"numbers ahead of parents", 1, []api.Node{node(2, 0, 1), node(67, 0, 3)}},
	} {
		t.Run(c.about, func(t *testing.T) {
			expectNew(t, []byte("abc"), tokensOf(1, 2, 3), of(c.l...), broken(c.at))
			expectNew(t, nil, make([]api.Token, 3), of(c.l...), broken(c.at))
		})
	}
}

// lists returns all lists of at most n numbers from from to below to.
func lists(n, from, to int) [][]int {
	all := [][]int{nil}
	for i := 0; i < len(all); i++ {
		for k := from; k < to && len(all[i]) < n; k++ {
			all = append(all, append(slices.Clone(all[i]), k))
		}
	}
	return all
}

// smallNodes returns all nodes with small numbers and those children.
func smallNodes(kids [][]int) []api.Node {
	var all []api.Node
	for _, kind := range []int{-1, api.NdName, 67} {
		for from := -1; from < 3; from++ {
			for to := -1; to < 3; to++ {
				for _, l := range kids {
					all = append(all, node(kind, from, to, l...))
				}
			}
		}
	}
	return all
}

// P15.1 to P15.4: all trees of one and of two nodes with small numbers, valid ones or not.
func TestEveryPair(t *testing.T) {
	text := []byte(" a b")
	toks := tokensOf(api.TkName, api.TkArrow)
	valid := 0
	expectAll := func(l ...api.Node) {
		for count := range 3 {
			wrong := tree.Check(of(l...), count)
			if f, e := New(text, toks[:count], of(l...)); e != wrong || (f == nil) != (wrong != nil) {
				t.Fatalf("New(%v, %d tokens) = %v, %#v, want %#v", l, count, f, e, wrong)
			}
			if wrong == nil {
				valid++
				expectPromises(t, made(t, string(text), toks[:count], of(l...)))
			}
		}
	}
	for _, a := range smallNodes(lists(1, -1, 2)) {
		expectAll(a)
		for _, b := range smallNodes(lists(2, -1, 3)) {
			expectAll(a, b)
		}
	}
	if valid != 31 {
		t.Error(valid)
	}
}
