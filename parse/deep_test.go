package parse

import (
	"slices"
	"strings"
	"testing"

	"cavil/api"
	"cavil/tree"
)

// tower is tokens with one node above another for each repetition of something, and how many there may be of them.
type tower struct {
	ahead, up, middle, down, behind string
	most                            int
}

// of returns the tokens with n repetitions.
func (w tower) of(n int) []int {
	return slices.Concat(kindsOf(w.ahead), slices.Repeat(kindsOf(w.up), n), kindsOf(w.middle), slices.Repeat(kindsOf(w.down), n), kindsOf(w.behind))
}

const (
	aheadOfValue     = "package p ; var a = "       // below File, List, VarDecl, VarSpec, List
	aheadOfType      = "package p ; var a "         // below File, List, VarDecl, VarSpec
	aheadOfStatement = "package p ; func f ( ) { "  // below File, List, Func, Block
	aheadOfCase      = aheadOfStatement + "switch " // below File, List, Func, Block, Switch
)

// towers are those that repeat one node, and those that repeat several.
func towers() []tower {
	return []tower{
		{aheadOfValue, "(", "a", ")", ";", 250},
		{aheadOfValue, "-", "a", "", ";", 250},
		{aheadOfValue, "<-", "a", "", ";", 250},
		{aheadOfValue, "", "a", ". b", ";", 250},
		{aheadOfValue, "", "a", ". ( b )", ";", 250},
		{aheadOfValue, "", "a", "[ : ]", ";", 250},
		{aheadOfValue, "", "a", "( )", ";", 250},
		{aheadOfValue, "", "a", "[ b ]", ";", 249}, // the first one has a list with a name in it
		{aheadOfValue, "", "a", "+ b", ";", 250},
		{aheadOfValue, "", "a", "* b", ";", 250},
		{aheadOfValue, "a {", "", "}", ";", 125},  // CompLit, Elems
		{aheadOfValue, "a (", "b", ")", ";", 125}, // Call, List
		{aheadOfValue + "a {", "{", "", "}", "} ;", 249},
		{aheadOfValue, "func ( ) { return", "a", "}", ";", 62}, // FuncLit, Block, Return, List
		{aheadOfType, "*", "a", "", ";", 251},
		{aheadOfType, "[ ]", "a", "", ";", 251},
		{aheadOfType, "[ 3 ]", "a", "", ";", 251},
		{aheadOfType, "chan", "a", "", ";", 251},
		{aheadOfType, "map [ b ]", "a", "", ";", 251},
		{aheadOfType, "(", "a", ")", ";", 251},
		{aheadOfType, "a [", "b", "]", ";", 125},          // Index, List
		{aheadOfType, "struct { a", "b", "}", ";", 125},   // StructT, Field
		{aheadOfType, "func ( ) *", "a", "", ";", 83},     // FuncT, Sig, Pointer
		{aheadOfType, "interface { *", "a", "}", ";", 62}, // InterT, Union, Term, Pointer
		{aheadOfStatement, "{", "", "}", "} ;", 252},
		{aheadOfStatement, "b :", "", "", "} ;", 251},
		{aheadOfStatement, "if b {", "", "}", "} ;", 126}, // If, Block
		{aheadOfStatement + "if b { }", "else if b { }", "", "", "} ;", 250},
		{aheadOfStatement, "for range b {", "", "}", "} ;", 126},
		{aheadOfStatement, "switch { default :", "", "}", "} ;", 63}, // Switch, List, Case, List
		{aheadOfStatement, "select { default :", "", "}", "} ;", 84}, // Select, Comm, List
		{aheadOfCase, "(", "b", ")", "{ } } ;", 250},
	}
}

// expectTooDeep expects the result for a tree that would be too deep.
func expectTooDeep(t *testing.T, kinds []int) {
	t.Helper()
	x, d := File(tokensOf(kinds))
	same := len(x.Nodes) == 2 && x.Nodes[0].Kind == api.NdBad && x.Nodes[1].Kind == api.NdFile && slices.Equal(x.Nodes[1].Kids, []int{0}) && len(x.Nodes[0].Kids) == 0
	for _, n := range x.Nodes {
		same = same && n.From == 0 && n.To == len(kinds)
	}
	if !same || !slices.Equal(d, []api.Diag{{Tok: 0, Err: api.ErrDeep}}) {
		t.Errorf("%s: %v, want ErrDeep", wordsOf(kinds), d)
	}
	if e := tree.Check(x, len(kinds)); e != nil {
		t.Errorf("%s: %v", wordsOf(kinds), e)
	}
}

// P14.1: as many nodes above one another as there may be, and one more, and many more.
func TestDeepest(t *testing.T) {
	for _, w := range towers() {
		for _, n := range []int{1, 2, w.most - 1, w.most} {
			expectFirst(t, w.of(n), -1)
		}
		for _, n := range []int{w.most + 1, w.most + 2, 300, 5000} {
			expectTooDeep(t, w.of(n))
		}
	}
	// It is exactly 256 nodes: the promise's number, told by itself.
	x, d := File(tokensOf(kindsOf(aheadOfValue + strings.Repeat("- ", 250) + "a ;")))
	if depth, e := tree.Depth(x); depth != 256 || e != nil || len(d) > 0 {
		t.Error(depth, e, d)
	}
}

// P14.1: deep parts beside others, and at the end of a file.
func TestDeepBeside(t *testing.T) {
	for _, w := range towers() {
		w.ahead = "package p ; func a ( ) { } ; var b c ; " + strings.TrimPrefix(w.ahead, "package p ; ")
		w.behind += " func d ( ) { } ; const e = 1 ;"
		expectFirst(t, w.of(w.most), -1)
		expectTooDeep(t, w.of(w.most+1))
	}
}

// P14.2: what is not closed doesn't derive, however deep it would be: the first error is where the file ends.
func TestDeepUnclosed(t *testing.T) {
	g := readGrammar(printed)
	for _, w := range towers() {
		end := func(n int) []int { return slices.Concat(kindsOf(w.ahead), slices.Repeat(kindsOf(w.up), n)) }
		if first := g.firstError(end(5)); first != len(end(5)) {
			t.Errorf("%s %s: %d", w.ahead, w.up, first)
		}
		for _, n := range []int{1, 100, w.most, w.most + 1, 300, 1000, 10000} {
			expectFirst(t, end(n), len(end(n)))
			wrong := append(end(n), api.TkImport, api.TkSemi)
			expectFirst(t, wrong, len(end(n)))
		}
	}
}

// P14.2: deep parts of a file that doesn't derive.
func TestDeepWrong(t *testing.T) {
	g := readGrammar(printed)
	for _, w := range towers() {
		for _, n := range []int{w.most, w.most + 1, 500} {
			kinds := slices.Concat(w.of(n), kindsOf("var b = = c ;"))
			expectFirst(t, kinds, len(kinds)-3)
			kinds = slices.Concat(kindsOf("package p ; var b = = c ; "), w.of(n)[3:])
			expectFirst(t, kinds, 6)
			// A part that is abandoned isn't deep.
			kinds = append(w.of(n)[:len(w.of(n))-1], kindsOf("= : ;")...)
			expectFirst(t, kinds, g.firstError(kinds))
		}
	}
}

// P14.1, P14.2: as many levels as anything is promised for.
func TestDeepLimit(t *testing.T) {
	const levels = 1 << 16
	for _, w := range towers() {
		expectTooDeep(t, w.of(levels))
		open := slices.Concat(kindsOf(w.ahead), slices.Repeat(kindsOf(w.up), levels))
		x, d := File(tokensOf(open))
		if e := tree.Check(x, len(open)); e != nil || len(d) != 1 {
			t.Error(w, e, d)
		}
	}
	// Nothing is promised for more, but it ends too.
	expectTooDeep(t, append(kindsOf(aheadOfValue), slices.Repeat([]int{api.TkLparen}, api.MaxTokens)...))
}

// P14.1, P14.2: many tokens that are not deep.
func TestMany(t *testing.T) {
	t.Parallel()
	for _, c := range []struct{ ahead, one, behind string }{
		{"package p ;", "import \"a\" ;", ""},
		{"package p ; import (", "a \"b\" ;", ") ;"},
		{"package p ;", "var a b ;", ""},
		{"package p ; const (", "a = b ;", ") ;"},
		{"package p ;", "func a ( ) { } ;", ""},
		{"package p ; var a", ", b", "= c ;"},
		{"package p ; var a = b", ", - c . d", ";"},
		{"package p ; func a (", "b , c ... d ,", ") { } ;"},
		{"package p ; type a [", "b c ,", "] d ;"},
		{"package p ; type a [ b c", "| ~ d", "] e ;"},
		{"package p ; type a struct {", "b c ;", "} ;"},
		{"package p ; type a interface {", "b ( ) ;", "} ;"},
		{aheadOfStatement, ";", "} ;"},
		{aheadOfStatement, "a ( ) ;", "} ;"},
		{aheadOfStatement, "if a { } else { b ( ) } ;", "} ;"},
		{aheadOfStatement + "switch {", "case a : b ( ) ;", "} } ;"},
		{aheadOfStatement + "select {", "case <- a : b ( ) ;", "} } ;"},
		{aheadOfValue + "a {", "b : { c } ,", "} ;"},
		{aheadOfValue + "a (", "b , * [ ] c ,", ") ;"},
		{aheadOfValue + "a [", "b ,", "] { } ;"},
	} {
		times := 1 << 17 / len(kindsOf(c.one))
		many := func(n int) []int {
			return slices.Concat(kindsOf(c.ahead), slices.Repeat(kindsOf(c.one), n), kindsOf(c.behind))
		}
		expectFirst(t, many(times), -1)
		expectFirst(t, many(times)[:len(many(times))-1], len(many(times))-1)
		few := append(many(1), api.TkColon)
		expectFirst(t, append(many(times), api.TkColon), len(many(times)))
		expectFirst(t, few, len(few)-1)
	}
}
