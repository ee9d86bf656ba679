package view

import (
	"cmp"
	"slices"
	"testing"

	"cavil/api"
)

// nodesOf returns the nodes of a kind in the order of where they begin.
func nodesOf(f *File, kind int) []int {
	var l []int
	for n, x := range f.Tree.Nodes {
		if x.Kind == kind {
			l = append(l, n)
		}
	}
	slices.SortStableFunc(l, func(a, b int) int { return cmp.Compare(f.Tree.Nodes[a].From, f.Tree.Nodes[b].From) })
	return l
}

// only returns the one node of a kind.
func only(t *testing.T, f *File, kind int) int {
	t.Helper()
	l := nodesOf(f, kind)
	if len(l) != 1 {
		t.Fatalf("%d nodes of kind %d: %s", len(l), kind, show(f))
	}
	return l[0]
}

// The example of the chapter.
func TestExample(t *testing.T) {
	f := parsed(t, "package p\nvar v chan<- int = a + b\n")
	expectOp(t, f, only(t, f, api.NdBinary), api.TkAdd)
	expectChan(t, f, only(t, f, api.NdChanT), 1)
}

// P15.2: each operator, with those of children and punctuation ahead of it.
func TestOperators(t *testing.T) {
	for word, kind := range map[string]int{
		"||": api.TkLor, "&&": api.TkLand, "==": api.TkEql, "!=": api.TkNeq, "<": api.TkLss, "<=": api.TkLeq, ">": api.TkGtr, ">=": api.TkGeq,
		"+": api.TkAdd, "-": api.TkSub, "|": api.TkOr, "^": api.TkXor, "*": api.TkMul, "/": api.TkQuo, "%": api.TkRem,
		"<<": api.TkShl, ">>": api.TkShr, "&": api.TkAnd, "&^": api.TkAndNot,
	} {
		f := parsed(t, "package p\nvar v = (!a).b[c:d] "+word+" e\n")
		n := only(t, f, api.NdBinary)
		expectOp(t, f, n, kind)
		expectHas(t, f, n, kind)
		expectOp(t, f, only(t, f, api.NdUnary), api.TkNot)
		expectOp(t, f, only(t, f, api.NdParen), 0)
	}
	for word, kind := range map[string]int{
		"=": api.TkAssign, "+=": api.TkAddAssign, "-=": api.TkSubAssign, "*=": api.TkMulAssign, "/=": api.TkQuoAssign, "%=": api.TkRemAssign,
		"&=": api.TkAndAssign, "|=": api.TkOrAssign, "^=": api.TkXorAssign, "<<=": api.TkShlAssign, ">>=": api.TkShrAssign, "&^=": api.TkAndNotAssign,
	} {
		f := parsed(t, "package p\nfunc f() { *a "+word+" -b }\n")
		n := only(t, f, api.NdAssign)
		expectOp(t, f, n, kind)
		expectHas(t, f, n, kind)
	}
	for word, kind := range map[string]int{
		"+": api.TkAdd, "-": api.TkSub, "!": api.TkNot, "^": api.TkXor, "*": api.TkMul, "&": api.TkAnd, "<-": api.TkArrow,
	} {
		f := parsed(t, "package p\nvar v = "+word+"(a || b)\n")
		n := only(t, f, api.NdUnary)
		expectOp(t, f, n, kind)
		expectHas(t, f, n, kind)
	}
}

// P15.3: the three forms, with each other and with parentheses around the element.
func TestChan(t *testing.T) {
	for text, want := range map[string][]int{
		"chan a":                       {0},
		"chan<- a":                     {1},
		"chan <- a":                    {1},
		"<-chan a":                     {2},
		"<- chan a":                    {2},
		"chan (a)":                     {0},
		"chan<- (a)":                   {1},
		"<-chan (a)":                   {2},
		"chan chan a":                  {0, 0},
		"chan<- chan a":                {1, 0},
		"<-chan chan a":                {2, 0},
		"chan<- chan<- a":              {1, 1},
		"chan<- <-chan a":              {1, 2},
		"<-chan chan<- a":              {2, 1},
		"chan (chan a)":                {0, 0},
		"chan (chan<- a)":              {0, 1},
		"chan (<-chan a)":              {0, 2},
		"chan<- (chan a)":              {1, 0},
		"<-chan (<-chan a)":            {2, 2},
		"<-chan (chan (a))":            {2, 0},
		"chan ((<-chan (a)))":          {0, 2},
		"chan func(<-chan a) chan<- b": {0, 2, 1},
		"(<-chan a)":                   {2},
		"[]chan<- a":                   {1},
	} {
		f := parsed(t, "package p\nvar v "+text+"\n")
		var got []int
		for _, n := range nodesOf(f, api.NdChanT) {
			got = append(got, f.Chan(n))
		}
		if !slices.Equal(got, want) {
			t.Errorf("%s: %v, want %v", text, got, want)
		}
		expectPromises(t, f)
	}
	// Where the parser makes a Unary and a ChanT, the ChanT has no arrow.
	f := parsed(t, "package p\nvar v = <-chan a(b)\n")
	expectChan(t, f, only(t, f, api.NdChanT), 0)
	expectOp(t, f, only(t, f, api.NdUnary), api.TkArrow)
}

// P15.3: nodes of every kind, and a ChanT with any own tokens.
func TestChanTokens(t *testing.T) {
	const arrow, other = api.TkArrow, api.TkChan
	for kind := range api.NdBinary + 1 {
		for kinds, want := range map[[2]int]int{{arrow, other}: 2, {arrow, arrow}: 2, {other, arrow}: 1, {other, other}: 0} {
			if kind != api.NdChanT {
				want = 0
			}
			expectChan(t, made(t, "", tokensOf(kinds[:]...), of(node(kind, 0, 2))), 0, want)
		}
	}
	for _, c := range []struct {
		want  int
		kinds []int
	}{
		{0, nil}, {0, []int{other}}, {2, []int{arrow}}, {0, []int{other, other, arrow}}, {0, []int{other, other, arrow, arrow}},
		{1, []int{api.TkLparen, arrow}}, {0, []int{api.TkLparen, other, arrow}}, {1, []int{0, arrow}}, {1, []int{most, arrow, other}},
	} {
		expectChan(t, made(t, "", tokensOf(c.kinds...), of(node(api.NdChanT, 0, len(c.kinds)))), 0, c.want)
	}
	// The tokens of a child do not count, wherever it stands.
	toks := tokensOf(arrow, other, arrow, other, arrow)
	for kid, want := range map[[2]int]int{{0, 0}: 2, {0, 1}: 1, {1, 2}: 2, {0, 2}: 2, {0, 3}: 1, {0, 4}: 2, {0, 5}: 0, {2, 5}: 2, {5, 5}: 2} {
		f := made(t, "", toks, of(node(api.NdChanT, kid[0], kid[1]), node(api.NdChanT, 0, 5, 0)))
		expectChan(t, f, 1, want)
		expectPromises(t, f)
	}
}

// P15.2: lists of names, literals and other nodes, which may have names below them.
func TestWords(t *testing.T) {
	f := parsed(t, "package p\nvar v, _, é = a, 0x1F, (b), `c`, d.e, 'f', -1, g(h, 2.5), func() {}, i\n")
	var got [][]string
	for _, n := range nodesOf(f, api.NdList) {
		got = append(got, f.Words(n))
	}
	want := [][]string{{}, {""}, {"v", "_", "é"}, {"a", "0x1F", "", "`c`", "", "'f'", "", "", "", "i"}, {"h", "2.5"}}
	if !slices.EqualFunc(got, want, slices.Equal) {
		t.Errorf("%q, want %q", got, want)
	}
	expectPromises(t, f)
}

// P15.2: Word takes the first token of a Name or a Lit, of whatever kind it is and whether a child has it or not.
func TestWord(t *testing.T) {
	for kind := range api.NdBinary + 1 {
		for _, token := range allKinds() {
			f := made(t, " a b c ", tokensOf(token, 1, 2), of(node(kind, 0, 1), node(kind, 1, 3), node(kind, 0, 3, 0, 1)))
			want := []string{"a", "b", "a"}
			if kind != api.NdName && kind != api.NdLit {
				want = []string{"", "", ""}
			}
			for n, word := range want {
				expectWord(t, f, n, word)
			}
			expectWords(t, f, 2, want[:2]...)
		}
	}
}
