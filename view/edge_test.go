package view

import (
	"slices"
	"testing"

	"cavil/api"
)

// P15.2 to P15.4: a nil File has no nodes.
func TestNil(t *testing.T) {
	var f *File
	for _, n := range append(outside(0), 1, 2, 66, 1000) {
		expectNothing(t, f, n)
	}
}

// P15.2 to P15.4: a File without nodes, which New does not make, with tokens and without.
func TestNoNodes(t *testing.T) {
	for _, f := range []*File{{}, {Text: []byte("a")}, {Text: []byte(" a b"), Toks: tokensOf(1, 2)}, {Tree: of()}} {
		for _, n := range append(outside(0), 1, 2) {
			expectNothing(t, f, n)
		}
	}
}

// P15.2 to P15.4: what is no index of a node, or of a child, next to what is one.
func TestOutside(t *testing.T) {
	f := made(t, " a <b", tokensOf(api.TkName, api.TkArrow, api.TkName), of(
		node(api.NdName, 0, 1), node(api.NdName, 2, 3), node(api.NdChanT, 0, 3, 0, 1)))
	for _, n := range []int{least, -3, -2, -1, 3, 4, 5, 6, most} {
		expectNothing(t, f, n)
	}
	for _, n := range []int{0, 1} {
		for _, i := range []int{least, -1, 0, 1, most} {
			expectKid(t, f, n, i, -1)
		}
	}
	for i, want := range map[int]int{least: -1, -2: -1, -1: -1, 0: 0, 1: 1, 2: -1, 3: -1, most: -1} {
		expectKid(t, f, 2, i, want)
	}
	expectEmpty(t, f, 0, false)
	expectPromises(t, f)
}

// P15.2, P15.4: a file without tokens, whose nodes are of every kind.
func TestNoTokens(t *testing.T) {
	for _, text := range []string{"", "a", "a b // c"} {
		for kind := range api.NdBinary + 1 {
			f := made(t, text, nil, of(node(kind, 0, 0), node(kind, 0, 0), node(kind, 0, 0, 1, 0)))
			for n := range 3 {
				expectWord(t, f, n, "")
				expectOwn(t, f, n)
				expectHas(t, f, n)
				expectOp(t, f, n, 0)
				expectChan(t, f, n, 0)
				expectSpan(t, f, n, 0, 0)
				expectEmpty(t, f, n, kind == api.NdEmpty)
			}
			expectWords(t, f, 2, "", "")
			expectKid(t, f, 2, 0, 1)
			expectPromises(t, f)
		}
	}
	f := parsed(t, "")
	expectSpan(t, f, len(f.Tree.Nodes)-1, 0, 0)
	expectPromises(t, f)
}

// P15.2, P15.4: nodes of every kind without tokens at the beginning, in the midst of and behind the tokens, below a node and below each other; Names and Lits among them.
func TestWithoutTokens(t *testing.T) {
	toks := []api.Token{{Kind: api.TkName, From: 3, To: 5}, {Kind: api.TkAdd, From: 7, To: 8}, {Kind: api.TkName, From: 8, To: 12}}
	at := []int{3, 7, 8, 12}
	for kind := range api.NdBinary + 1 {
		for i, want := range at {
			f := made(t, "   ab  +cdef   ", toks, of(node(kind, i, i), node(kind, i, i, 0), node(api.NdList, 0, 3, 1)))
			for n := range 2 {
				expectSpan(t, f, n, want, want)
				expectWord(t, f, n, "")
				expectOwn(t, f, n)
				expectHas(t, f, n)
				expectOp(t, f, n, 0)
				expectChan(t, f, n, 0)
				expectEmpty(t, f, n, kind == api.NdEmpty)
			}
			expectSpan(t, f, 2, 3, 12)
			expectWords(t, f, 2, "")
			expectOwn(t, f, 2, 0, 1, 2)
			expectPromises(t, f)
			// The root itself, whose end is that of the tree, though not that of the tokens.
			expectSpan(t, made(t, "   ab  +cdef   ", toks, of(node(kind, i, i))), 0, want, want)
		}
	}
}

// P15.2, P15.4: the nodes of a file that stand for what is missing.
func TestEmpty(t *testing.T) {
	f := parsed(t, "package p\nfunc f() {\n\treturn ;\n\tbreak\n}")
	for _, c := range []struct{ kind, kid int }{{api.NdFunc, 0}, {api.NdFunc, 2}, {api.NdSig, 1}, {api.NdReturn, 0}, {api.NdBreak, 0}} {
		n := f.Kid(only(t, f, c.kind), c.kid)
		expectEmpty(t, f, n, true)
		span := f.Span(n)
		expectSpan(t, f, n, span.From, span.From)
		expectOwn(t, f, n)
		expectOp(t, f, n, 0)
		expectWord(t, f, n, "")
		expectWords(t, f, n)
		expectKid(t, f, n, 0, -1)
	}
	expectPromises(t, f)
	// Behind the last token.
	f = made(t, "a  ", []api.Token{{Kind: api.TkName, To: 1}}, of(node(api.NdName, 0, 1), node(api.NdEmpty, 1, 1), node(api.NdList, 0, 1, 0, 1)))
	expectSpan(t, f, 1, 1, 1)
	expectWords(t, f, 2, "a", "")
	// An Empty is one by its kind, even with tokens and children.
	f = made(t, " a b", tokensOf(1, 40), of(node(api.NdName, 0, 1), node(api.NdEmpty, 0, 2, 0), node(api.NdList, 0, 2, 1)))
	expectEmpty(t, f, 1, true)
	expectSpan(t, f, 1, 1, 4)
	expectOp(t, f, 1, 40)
	expectWords(t, f, 1, "a")
	expectEmpty(t, f, 2, false)
	expectPromises(t, f)
}

// P15.2: nodes all of whose own tokens are punctuation, each kind alone and each two, and with another one ahead of them, between them and behind them.
func TestPunctuation(t *testing.T) {
	for _, kind := range allKinds() {
		want := kind
		if slices.Contains(punctuation(), kind) {
			want = 0
		}
		f := made(t, "", tokensOf(kind), of(node(api.NdList, 0, 1)))
		expectOp(t, f, 0, want)
		expectHas(t, f, 0, kind)
	}
	for _, a := range punctuation() {
		for _, b := range punctuation() {
			expectOp(t, made(t, "", tokensOf(a, b), of(node(api.NdList, 0, 2))), 0, 0)
			for _, kind := range []int{api.TkEllipsis, api.TkDefine, api.TkTilde, api.TkName, api.TkBad, 88, -1, least, most} {
				for i := range 3 {
					f := made(t, "", tokensOf(slices.Insert([]int{a, b}, i, kind)...), of(node(api.NdList, 0, 3)))
					expectOp(t, f, 0, kind)
					expectHas(t, f, 0, a, b, kind)
					// The first of two.
					f = made(t, "", tokensOf(slices.Insert([]int{a, b, api.TkAdd}, i, kind)...), of(node(api.NdList, 0, 4)))
					expectOp(t, f, 0, kind)
				}
			}
			// What is no punctuation may be a child's.
			f := made(t, "", tokensOf(a, api.TkAdd, b), of(node(api.NdName, 1, 2), node(api.NdList, 0, 3, 0)))
			expectOp(t, f, 1, 0)
			expectHas(t, f, 1, a, b)
			expectOp(t, f, 0, api.TkAdd)
		}
	}
}

// P15.2: a token of kind 0 is one that is not punctuation.
func TestKindZero(t *testing.T) {
	f := made(t, "", tokensOf(api.TkComma, 0, api.TkAdd), of(node(api.NdBinary, 0, 3)))
	expectOp(t, f, 0, 0)
	expectHas(t, f, 0, 0, api.TkComma, api.TkAdd)
}

// P15.2: tokens whose offsets lie outside the text or stand the wrong way round.
func TestWordOutside(t *testing.T) {
	for _, c := range []struct {
		from, to int
		want     string
	}{
		{0, 3, "abc"}, {0, 0, ""}, {3, 3, ""}, {1, 2, "b"}, {2, 3, "c"},
		{-1, 2, ""}, {-2, -1, ""}, {0, 4, ""}, {3, 4, ""}, {4, 4, ""}, {4, 5, ""}, {4, 3, ""}, {2, 1, ""}, {3, 0, ""}, {1, -1, ""},
		{least, 2, ""}, {0, most, ""}, {least, most, ""}, {most, least, ""}, {least, least, ""}, {most, most, ""}, {2, least, ""}, {most, 2, ""},
	} {
		for _, kind := range []int{api.NdName, api.NdLit} {
			f := made(t, "abc", []api.Token{{Kind: api.TkName, From: c.from, To: c.to}}, of(node(kind, 0, 1), node(api.NdList, 0, 1, 0)))
			expectWord(t, f, 0, c.want)
			expectWords(t, f, 1, c.want)
			expectSpan(t, f, 0, c.from, c.to)
			expectPromises(t, f)
		}
	}
	// Bytes that are no text of any token, and not UTF-8.
	f := made(t, "\xff\x00\xc3", []api.Token{{From: 0, To: 3}}, of(node(api.NdName, 0, 1)))
	expectWord(t, f, 0, "\xff\x00\xc3")
}

// P15.4: offsets of tokens in any order, as they stand.
func TestSpanDisorder(t *testing.T) {
	ends := []int{least, -1, 0, 1, 5, most}
	for _, a := range ends {
		for _, b := range ends {
			toks := []api.Token{{From: a, To: b}, {From: 3, To: 2}, {From: b, To: a}}
			f := made(t, "abc", toks, of(node(5, 0, 0), node(5, 0, 1), node(5, 1, 1), node(5, 1, 2), node(5, 2, 2), node(5, 2, 3), node(5, 3, 3), node(5, 0, 3, 0, 1, 2, 3, 4, 5, 6)))
			for n, want := range []api.Span{{From: a, To: a}, {From: a, To: b}, {From: 3, To: 3}, {From: 3, To: 2}, {From: b, To: b}, {From: b, To: a}, {From: a, To: a}, {From: a, To: a}} {
				expectSpan(t, f, n, want.From, want.To)
			}
			expectPromises(t, f)
		}
	}
}
