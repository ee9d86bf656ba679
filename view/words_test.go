package view

import (
	"math"
	"slices"
	"strconv"
	"testing"

	"cavil/api"
	"cavil/parse"
	"cavil/scan"
	"cavil/tree"
)

const (
	least = math.MinInt
	most  = math.MaxInt
)

func node(kind, from, to int, kids ...int) api.Node {
	return api.Node{Kind: kind, From: from, To: to, Kids: kids}
}

func of(l ...api.Node) api.Tree { return api.Tree{Nodes: l} }

// tokensOf returns tokens of kinds, each of one byte and with a byte ahead of it.
func tokensOf(kinds ...int) []api.Token {
	l := make([]api.Token, len(kinds))
	for i, kind := range kinds {
		l[i] = api.Token{Kind: kind, From: 2*i + 1, To: 2*i + 2}
	}
	return l
}

// made returns the file of a tree that is valid.
func made(t *testing.T, text string, toks []api.Token, x api.Tree) *File {
	t.Helper()
	f, e := New([]byte(text), toks, x)
	if e != nil || f == nil {
		t.Fatalf("New(%q, %v, %v) = %v, %v", text, toks, x, f, e)
	}
	return f
}

// parsed returns the file of a text.
func parsed(t *testing.T, text string) *File {
	t.Helper()
	toks, e := scan.Tokens([]byte(text))
	if e != nil {
		t.Fatal(e)
	}
	x, _ := parse.File(toks)
	return made(t, text, toks, x)
}

// The functions below are the promises word by word, for files that New made and nodes that there are.

func wordByWords(f *File, n int) string {
	x := f.Tree.Nodes[n]
	if x.Kind == api.NdName && x.From < x.To || x.Kind == api.NdLit && x.From < x.To {
		return scan.Text(f.Text, f.Toks[x.From])
	}
	return ""
}

func wordsByWords(f *File, n int) []string {
	var l []string
	for _, k := range f.Tree.Nodes[n].Kids {
		l = append(l, wordByWords(f, k))
	}
	return l
}

func ownByWords(f *File, n int) []int {
	var l []int
	x := f.Tree.Nodes[n]
	for tok := x.From; tok < x.To; tok++ {
		if !slices.ContainsFunc(x.Kids, func(k int) bool { return f.Tree.Nodes[k].From <= tok && tok < f.Tree.Nodes[k].To }) {
			l = append(l, tok)
		}
	}
	return l
}

func kindsByWords(f *File, n int) []int {
	var l []int
	for _, tok := range ownByWords(f, n) {
		l = append(l, f.Toks[tok].Kind)
	}
	return l
}

func opByWords(f *File, n int) int {
	for _, kind := range kindsByWords(f, n) {
		if !slices.Contains(punctuation(), kind) {
			return kind
		}
	}
	return 0
}

// punctuation is the kinds that P15.2 lists.
func punctuation() []int {
	return []int{api.TkLparen, api.TkRparen, api.TkLbrack, api.TkRbrack, api.TkLbrace, api.TkRbrace, api.TkComma, api.TkPeriod, api.TkColon, api.TkSemi}
}

func chanByWords(f *File, n int) int {
	kinds := kindsByWords(f, n)
	if f.Tree.Nodes[n].Kind == api.NdChanT && len(kinds) > 0 && kinds[0] == api.TkArrow {
		return 2
	}
	if f.Tree.Nodes[n].Kind == api.NdChanT && len(kinds) > 1 && kinds[1] == api.TkArrow {
		return 1
	}
	return 0
}

func spanByWords(f *File, n int) api.Span {
	x := f.Tree.Nodes[n]
	at := 0
	switch {
	case x.From < x.To:
		return api.Span{From: f.Toks[x.From].From, To: f.Toks[x.To-1].To}
	case x.From < len(f.Toks):
		at = f.Toks[x.From].From
	case len(f.Toks) > 0:
		at = f.Toks[len(f.Toks)-1].To
	}
	return api.Span{From: at, To: at}
}

// The functions below expect answers of the calls.

func expectNode(t *testing.T, f *File, n int, want api.Node) {
	t.Helper()
	got := f.Node(n)
	if got.Kind != want.Kind || got.From != want.From || got.To != want.To || !slices.Equal(got.Kids, want.Kids) {
		t.Errorf("Node(%d) = %v, want %v", n, got, want)
	}
}

func expectKid(t *testing.T, f *File, n, i, want int) {
	t.Helper()
	if got := f.Kid(n, i); got != want {
		t.Errorf("Kid(%d, %d) = %d, want %d", n, i, got, want)
	}
}

func expectWord(t *testing.T, f *File, n int, want string) {
	t.Helper()
	if got := f.Word(n); got != want {
		t.Errorf("Word(%d) = %q, want %q", n, got, want)
	}
}

func expectWords(t *testing.T, f *File, n int, want ...string) {
	t.Helper()
	if got := f.Words(n); !slices.Equal(got, want) {
		t.Errorf("Words(%d) = %q, want %q", n, got, want)
	}
}

func expectOwn(t *testing.T, f *File, n int, want ...int) {
	t.Helper()
	if got := f.Own(n); !slices.Equal(got, want) {
		t.Errorf("Own(%d) = %v, want %v", n, got, want)
	}
}

// expectHas expects Has of the kinds, and of no other one.
func expectHas(t *testing.T, f *File, n int, kinds ...int) {
	t.Helper()
	for _, kind := range slices.Concat(allKinds(), kinds) {
		if got := f.Has(n, kind); got != slices.Contains(kinds, kind) {
			t.Errorf("Has(%d, %d) = %t", n, kind, got)
		}
	}
}

// allKinds is the kinds of tokens, and numbers around and far from them.
func allKinds() []int {
	l := []int{least, -87, -2, most}
	for kind := -1; kind <= api.TkColon+2; kind++ {
		l = append(l, kind)
	}
	return l
}

func expectOp(t *testing.T, f *File, n, want int) {
	t.Helper()
	if got := f.Op(n); got != want {
		t.Errorf("Op(%d) = %d, want %d", n, got, want)
	}
}

func expectChan(t *testing.T, f *File, n, want int) {
	t.Helper()
	if got := f.Chan(n); got != want {
		t.Errorf("Chan(%d) = %d, want %d", n, got, want)
	}
}

func expectSpan(t *testing.T, f *File, n, from, to int) {
	t.Helper()
	if got := f.Span(n); got != (api.Span{From: from, To: to}) {
		t.Errorf("Span(%d) = %v, want %d to %d", n, got, from, to)
	}
}

func expectEmpty(t *testing.T, f *File, n int, want bool) {
	t.Helper()
	if got := f.Empty(n); got != want {
		t.Errorf("Empty(%d) = %t", n, got)
	}
}

// expectNothing expects of every call what it answers where there is no node n.
func expectNothing(t *testing.T, f *File, n int) {
	t.Helper()
	expectNode(t, f, n, api.Node{})
	for _, i := range []int{least, -2, -1, 0, 1, 2, most} {
		expectKid(t, f, n, i, -1)
	}
	expectWord(t, f, n, "")
	expectWords(t, f, n)
	expectOwn(t, f, n)
	expectHas(t, f, n)
	expectOp(t, f, n, 0)
	expectChan(t, f, n, 0)
	expectSpan(t, f, n, 0, 0)
	expectEmpty(t, f, n, true)
}

// outside is indices that are not those of so many things.
func outside(count int) []int {
	return []int{least, least + 1, -count - 1, -2, -1, count, count + 1, 2*count + 1, 1 << 32, most - 1, most}
}

// expectPromises holds all calls at all nodes of a file, and at some numbers that are no nodes, against the promises.
func expectPromises(t *testing.T, f *File) {
	t.Helper()
	for _, n := range outside(len(f.Tree.Nodes)) {
		expectNothing(t, f, n)
	}
	for n, x := range f.Tree.Nodes {
		expectNode(t, f, n, x)
		for i, k := range x.Kids {
			expectKid(t, f, n, i, k)
		}
		for _, i := range outside(len(x.Kids)) {
			expectKid(t, f, n, i, -1)
		}
		expectWord(t, f, n, wordByWords(f, n))
		expectWords(t, f, n, wordsByWords(f, n)...)
		expectOwn(t, f, n, ownByWords(f, n)...)
		expectHas(t, f, n, kindsByWords(f, n)...)
		expectOp(t, f, n, opByWords(f, n))
		expectChan(t, f, n, chanByWords(f, n))
		span := spanByWords(f, n)
		expectSpan(t, f, n, span.From, span.To)
		expectEmpty(t, f, n, x.Kind == api.NdEmpty)
	}
	if t.Failed() {
		t.Fatal(show(f))
	}
}

// expectAgreement holds Own, Has, Op and Word at all nodes against one another and against the layers below.
func expectAgreement(t *testing.T, f *File) {
	t.Helper()
	for n, x := range f.Tree.Nodes {
		own, e := tree.Own(f.Tree, n)
		if got := f.Own(n); e != nil || !slices.Equal(got, own) {
			t.Fatalf("Own(%d) = %v, that of the tree is %v, %v: %s", n, got, own, e, show(f))
		}
		op := 0
		for _, tok := range slices.Backward(own) {
			kind := f.Toks[tok].Kind
			if !f.Has(n, kind) {
				t.Fatalf("Has(%d, %d) is false: %s", n, kind, show(f))
			}
			if !slices.Contains(punctuation(), kind) {
				op = kind
			}
		}
		for _, kind := range allKinds() {
			if f.Has(n, kind) && !slices.ContainsFunc(own, func(tok int) bool { return f.Toks[tok].Kind == kind }) {
				t.Fatalf("Has(%d, %d) is true: %s", n, kind, show(f))
			}
		}
		if f.Op(n) != op || op != 0 && !f.Has(n, op) {
			t.Fatalf("Op(%d) = %d, want %d: %s", n, f.Op(n), op, show(f))
		}
		word := ""
		if (x.Kind == api.NdName || x.Kind == api.NdLit) && x.From < x.To {
			word = scan.Text(f.Text, f.Toks[x.From])
		}
		expectWord(t, f, n, word)
	}
}

// show is a file as a test tells it.
func show(f *File) string {
	s := strconv.Quote(string(f.Text)) + " tokens"
	for _, x := range f.Toks {
		s += " " + strconv.Itoa(x.Kind) + ":" + strconv.Itoa(x.From) + ".." + strconv.Itoa(x.To)
	}
	s += " nodes"
	for i, x := range f.Tree.Nodes {
		s += " " + strconv.Itoa(i) + ": " + strconv.Itoa(x.Kind) + " " + strconv.Itoa(x.From) + ".." + strconv.Itoa(x.To)
		for _, k := range x.Kids {
			s += " <" + strconv.Itoa(k)
		}
	}
	return s
}
