package view

import (
	"slices"
	"strings"
	"testing"

	"cavil/api"
	"cavil/token"
)

// form is a node of a text: the first one of its kind over a part of it (over all of it, if none is told).
type form struct {
	kind     int
	in, part string
	own      string // the kinds of its own tokens, as token.Spell tells them
	op       int
	words    string // the words of its children, with - for the empty string
}

// expectForms expects each form, in a file with a beginning and an end around its text.
func expectForms(t *testing.T, ahead, behind string, l []form) {
	t.Helper()
	for _, x := range l {
		f := parsed(t, ahead+x.in+behind)
		if x.part == "" {
			x.part = x.in
		}
		from := len(ahead) + strings.Index(x.in, x.part)
		n := slices.IndexFunc(f.Tree.Nodes, func(y api.Node) bool {
			return y.Kind == x.kind && y.From < y.To && f.Toks[y.From].From == from && f.Toks[y.To-1].To == from+len(x.part)
		})
		if n < 0 {
			t.Errorf("%s: no node of kind %d over %s", x.in, x.kind, x.part)
			continue
		}
		expectSpan(t, f, n, from, from+len(x.part))
		expectForm(t, f, n, x)
		expectPromises(t, f)
		expectAgreement(t, f)
		if t.Failed() {
			t.Fatalf("%s in %s", x.part, x.in)
		}
	}
}

func expectForm(t *testing.T, f *File, n int, x form) {
	t.Helper()
	var kinds []int
	var own []string
	for _, tok := range f.Own(n) {
		kinds = append(kinds, f.Toks[tok].Kind)
		own = append(own, token.Spell(f.Toks[tok].Kind))
	}
	if got := strings.Join(own, " "); got != x.own {
		t.Errorf("own tokens %s, want %s", got, x.own)
	}
	expectHas(t, f, n, kinds...)
	expectOp(t, f, n, x.op)
	want := strings.Fields(x.words)
	for i := range want {
		want[i] = strings.TrimPrefix(want[i], "-")
	}
	expectWords(t, f, n, want...)
	for i := range want {
		expectWord(t, f, f.Kid(n, i), want[i])
	}
	expectKid(t, f, n, len(want), -1)
	expectEmpty(t, f, n, x.kind == api.NdEmpty)
}

// P15.2, P15.4: each kind of node; forms of Empty are in TestEmpty.
func TestForms(t *testing.T) {
	expectForms(t, "", "", fileForms())
	expectForms(t, "package p\n", "\n", declForms())
	expectForms(t, "package p\nvar v ", "\n", typeForms())
	expectForms(t, "package p\nfunc f() {\n\t", "\n}\n", stmtForms())
	expectForms(t, "package p\nvar v = ", "\n", exprForms())
	known := map[int]bool{api.NdEmpty: true}
	for _, l := range [][]form{fileForms(), declForms(), typeForms(), stmtForms(), exprForms()} {
		for _, x := range l {
			known[x.kind] = true
		}
	}
	for kind := range api.NdBinary + 1 {
		if !known[kind] {
			t.Errorf("no form of kind %d", kind)
		}
	}
}

// fileForms are whole files.
func fileForms() []form {
	return []form{
		{api.NdFile, "package p", "", "package ;", api.TkPackage, "p - -"},
		{api.NdFile, "package p; import \"a\"; var b c;", "", "package ;", api.TkPackage, "p - -"},
		{api.NdName, "package q; import \"a\"", "q", "name", api.TkName, ""},
		{api.NdList, "package p; var a b; var c d;", "var a b; var c d;", "; ;", 0, "- -"},
		{api.NdFile, " package p /* q */ ; // r", "package p /* q */ ;", "package ;", api.TkPackage, "p - -"},
		{api.NdBad, "package 1; var a b", "1", "int", api.TkInt, ""},
	}
}

// declForms are declarations.
func declForms() []form {
	return []form{
		{api.NdImportDecl, `import "a"`, "", "import", api.TkImport, "-"},
		{api.NdImportDecl, `import ( "a"; b "c" )`, "", "import ( ; )", api.TkImport, "- -"},
		{api.NdImport, `import "a"`, `"a"`, "", 0, `- "a"`},
		{api.NdImport, `import b "c"`, `b "c"`, "", 0, `b "c"`},
		{api.NdList, "var a, b = 1, c.d, e", "1, c.d, e", ", ,", 0, "1 - e"},
		{api.NdConstDecl, "const a = 1", "", "const", api.TkConst, "-"},
		{api.NdConstDecl, "const ( a = 1; b )", "", "const ( ; )", api.TkConst, "- -"},
		{api.NdConstSpec, "const a, b c = 1, d", "a, b c = 1, d", "=", api.TkAssign, "- c -"},
		{api.NdConstSpec, "const ( a = 1; b )", "b", "", 0, "- - -"},
		{api.NdVarDecl, "var a b", "", "var", api.TkVar, "-"},
		{api.NdVarSpec, "var a = b", "a = b", "=", api.TkAssign, "- - -"},
		{api.NdTypeDecl, "type a b", "", "type", api.TkType, "-"},
		{api.NdTypeDecl, "type ( a b; c d; )", "", "type ( ; ; )", api.TkType, "- -"},
		{api.NdTypeSpec, "type a b", "a b", "", 0, "a - b"},
		{api.NdTypeSpec, "type a[b c] d", "a[b c] d", "[ ]", 0, "a - d"},
		{api.NdTParam, "type a[b, c ~d | g] f", "b, c ~d | g", "", 0, "- -"},
		{api.NdUnion, "type a[b, c ~d | g] f", "~d | g", "|", api.TkOr, "- -"},
		{api.NdTerm, "type a[b, c ~d | g] f", "~d", "~", api.TkTilde, "d"},
		{api.NdTerm, "type a[b, c ~d | g] f", "g", "", 0, "g"},
		{api.NdFunc, "func a() {}", "", "func", api.TkFunc, "- a - - -"},
		{api.NdFunc, "func a[b c]() {}", "", "func [ ]", api.TkFunc, "- a - - -"},
		{api.NdFunc, "func (a b) c() {}", "", "func", api.TkFunc, "- c - - -"},
		{api.NdRecv, "func (a *b[c, d]) e() {}", "(a *b[c, d])", "( * [ ] )", api.TkMul, "a b -"},
		{api.NdRecv, "func (a) b() {}", "(a)", "( )", 0, "- a -"},
		{api.NdSig, "func a(b c) d {}", "(b c) d", "", 0, "- d"},
		{api.NdParams, "func a(b, c d) {}", "(b, c d)", "( , )", 0, "- -"},
		{api.NdParams, "func a(b, c,) {}", "(b, c,)", "( , , )", 0, "- -"},
		{api.NdParam, "func a(b, c d) {}", "c d", "", 0, "c d"},
		{api.NdParam, "func a(b, c d) {}", "b", "", 0, "- b"},
		{api.NdParam, "func a(b ...c) {}", "b ...c", "...", api.TkEllipsis, "b c"},
		{api.NdBad, "var = 3", "var = 3", "var = int", api.TkVar, ""},
	}
}

// typeForms are types.
func typeForms() []form {
	return []form{
		{api.NdName, "a", "", "name", api.TkName, ""},
		{api.NdSelector, "a.b", "", ".", 0, "a b"},
		{api.NdIndex, "a[b]", "", "[ ]", 0, "a -"},
		{api.NdList, "a[b, []c, d]", "b, []c, d", ", ,", 0, "b - d"},
		{api.NdParen, "(a)", "", "( )", 0, "a"},
		{api.NdPointer, "*a", "", "*", api.TkMul, "a"},
		{api.NdSliceT, "[]a", "", "[ ]", 0, "a"},
		{api.NdArrayT, "[5]a", "", "[ ]", 0, "5 a"},
		{api.NdArrayT, "[a.b]c", "", "[ ]", 0, "- c"},
		{api.NdMapT, "map[a]b", "", "map [ ]", api.TkMap, "a b"},
		{api.NdMapT, "map[a][]b", "", "map [ ]", api.TkMap, "a -"},
		{api.NdChanT, "chan a", "", "chan", api.TkChan, "a"},
		{api.NdChanT, "chan<- a", "", "chan <-", api.TkChan, "a"},
		{api.NdChanT, "<-chan a", "", "<- chan", api.TkArrow, "a"},
		{api.NdFuncT, "func(a) b", "", "func", api.TkFunc, "-"},
		{api.NdStructT, "struct{ a; b, c d; *e }", "", "struct { ; ; }", api.TkStruct, "- - -"},
		{api.NdField, "struct{ a; b, c d; *e }", "a", "", 0, "- a"},
		{api.NdField, "struct{ a; b, c d; *e }", "b, c d", "", 0, "- d"},
		{api.NdField, "struct{ a; b, c d; *e }", "*e", "", 0, "- -"},
		{api.NdInterT, "interface{ a(); ~b | c }", "", "interface { ; }", api.TkInterface, "- -"},
		{api.NdMethod, "interface{ a(); ~b | c }", "a()", "", 0, "a -"},
		{api.NdUnion, "interface{ a(); ~b | c }", "~b | c", "|", api.TkOr, "- -"},
	}
}

// stmtForms are statements.
func stmtForms() []form {
	return []form{
		{api.NdBlock, "{ a(); ; b() }", "", "{ ; ; }", 0, "- -"},
		{api.NdBlock, "{}", "", "{ }", 0, ""},
		{api.NdLabel, "a: b()", "", ":", 0, "a -"},
		{api.NdExprS, "a", "", "", 0, "a"},
		{api.NdSend, "a <- 1", "", "<-", api.TkArrow, "a 1"},
		{api.NdIncDec, "a++", "", "++", api.TkInc, "a"},
		{api.NdIncDec, "a.b--", "", "--", api.TkDec, "-"},
		{api.NdAssign, "a, b = c, d", "", "=", api.TkAssign, "- -"},
		{api.NdAssign, "a &^= b", "", "&^=", api.TkAndNotAssign, "- -"},
		{api.NdDefine, "a, b := c, d", "", ":=", api.TkDefine, "- -"},
		{api.NdList, "a, b := c, d", "a, b", ",", 0, "a b"},
		{api.NdGo, "go a()", "", "go", api.TkGo, "-"},
		{api.NdDefer, "defer a()", "", "defer", api.TkDefer, "-"},
		{api.NdReturn, "return", "", "return", api.TkReturn, "-"},
		{api.NdReturn, "return a, b", "", "return", api.TkReturn, "-"},
		{api.NdBreak, "break", "", "break", api.TkBreak, "-"},
		{api.NdBreak, "break a", "", "break", api.TkBreak, "a"},
		{api.NdContinue, "continue a", "", "continue", api.TkContinue, "a"},
		{api.NdGoto, "goto a", "", "goto", api.TkGoto, "a"},
		{api.NdFall, "fallthrough", "", "fallthrough", api.TkFallthrough, ""},
		{api.NdIf, "if a { b() }", "", "if", api.TkIf, "- a - -"},
		{api.NdIf, "if a := b; c { } else { }", "", "if ; else", api.TkIf, "- c - -"},
		{api.NdSwitch, "switch a { case 1: b() }", "", "switch { }", api.TkSwitch, "- a -"},
		{api.NdSwitch, "switch a = b; { }", "", "switch ; { }", api.TkSwitch, "- - -"},
		{api.NdTypeSwitch, "switch a := b.(type) { }", "", "switch { }", api.TkSwitch, "- - -"},
		{api.NdGuard, "switch a := b.(type) { }", "a := b.(type)", ":= . ( type )", api.TkDefine, "a b"},
		{api.NdGuard, "switch a.(type) { }", "a.(type)", ". ( type )", api.TkType, "- a"},
		{api.NdCase, "switch a { case 1: b() }", "case 1: b()", "case :", api.TkCase, "- -"},
		{api.NdCase, "switch a { default: }", "default:", "default :", api.TkDefault, "- -"},
		{api.NdSelect, "select { case a <- b: c() }", "", "select { }", api.TkSelect, "-"},
		{api.NdComm, "select { case a <- b: c() }", "case a <- b: c()", "case :", api.TkCase, "- -"},
		{api.NdFor, "for { }", "", "for", api.TkFor, "- - - -"},
		{api.NdFor, "for a := 1; b; a++ { }", "", "for ; ;", api.TkFor, "- b - -"},
		{api.NdRange, "for a, b := range c { }", "", "for := range", api.TkFor, "- c -"},
		{api.NdRange, "for range a { }", "", "for range", api.TkFor, "- a -"},
		{api.NdBad, "a b", "a b", "name name", api.TkName, ""},
	}
}

// exprForms are expressions.
func exprForms() []form {
	return []form{
		{api.NdName, "aé_1", "", "name", api.TkName, ""},
		{api.NdLit, "1_0", "", "int", api.TkInt, ""},
		{api.NdLit, "1.5e3", "", "float", api.TkFloat, ""},
		{api.NdLit, `'\''`, "", "char", api.TkChar, ""},
		{api.NdLit, "`a\nb`", "", "string", api.TkString, ""},
		{api.NdParen, "(a)", "", "( )", 0, "a"},
		{api.NdFuncLit, "func() { a() }", "", "func", api.TkFunc, "- -"},
		{api.NdCompLit, "a{ b, 1 }", "", "", 0, "a -"},
		{api.NdElems, "a{ b, 1, c: d, }", "{ b, 1, c: d, }", "{ , , , }", 0, "b 1 -"},
		{api.NdKeyValue, "a{ b: 'c' }", "b: 'c'", ":", 0, "b 'c'"},
		{api.NdArrayT, "[...]a{ }", "[...]a", "[ ... ]", api.TkEllipsis, "- a"},
		{api.NdSelector, "a.b", "", ".", 0, "a b"},
		{api.NdAssert, "a.(b)", "", ". ( )", 0, "a b"},
		{api.NdIndex, "a[1]", "", "[ ]", 0, "a -"},
		{api.NdList, "a[1]", "1", "", 0, "1"},
		{api.NdSliceX, "a[1:b:c]", "", "[ : : ]", 0, "a 1 b c"},
		{api.NdSliceX, "a[:]", "", "[ : ]", 0, "a - - -"},
		{api.NdCall, "a(1, b...)", "", "( )", 0, "a -"},
		{api.NdList, "a(1, b...)", "1, b...", ", ...", api.TkEllipsis, "1 b"},
		{api.NdCall, "a()", "", "( )", 0, "a -"},
		{api.NdList, "a(b, 1, c + d, (e), *f, \"g\")", "b, 1, c + d, (e), *f, \"g\"", ", , , , ,", 0, `b 1 - - - "g"`},
		{api.NdUnary, "-a", "", "-", api.TkSub, "a"},
		{api.NdUnary, "<-(a)", "", "<-", api.TkArrow, "-"},
		{api.NdUnary, "&a{ }", "", "&", api.TkAnd, "-"},
		{api.NdBinary, "a + b", "", "+", api.TkAdd, "a b"},
		{api.NdBinary, "(a) << -1", "", "<<", api.TkShl, "- -"},
		{api.NdBinary, "a + 2 * c", "", "+", api.TkAdd, "a -"},
		{api.NdBinary, "a + 2 * c", "2 * c", "*", api.TkMul, "2 c"},
		{api.NdBinary, "a - b - 3", "", "-", api.TkSub, "- 3"},
	}
}
