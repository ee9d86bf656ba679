package token

import (
	"bytes"
	"math"
	"slices"
	"strings"
	"testing"

	"cavil/api"
)

// keywords and operators are as the chapter lists them, in the order of their kinds.
const (
	keywords  = "break case chan const continue default defer else fallthrough for func go goto if import interface map package range return select struct switch type var"
	operators = "+ - * / % & | ^ << >> &^ += -= *= /= %= &= |= ^= <<= >>= &^= && || <- ++ -- == < > = ! ~ != <= >= := ... ( [ { , . ) ] } ; :"
)

// spelt is the text of each kind that has one.
func spelt() map[int]string {
	m := map[int]string{1: "name", 2: "int", 3: "float", 4: "char", 5: "string"}
	for i, s := range strings.Fields(keywords) {
		m[10+i] = s
	}
	for i, s := range strings.Fields(operators) {
		m[40+i] = s
	}
	return m
}

// kindOf is the kind of a keyword or an operator.
func kindOf(t *testing.T, text string) int {
	t.Helper()
	for kind, s := range spelt() {
		if kind >= 10 && s == text {
			return kind
		}
	}
	t.Fatalf("no kind for %q", text)
	return 0
}

// numbers is every number of a kind, those around them, and far ones.
func numbers() []int {
	l := []int{
		math.MinInt, math.MinInt + 1, math.MinInt32, -1 << 16, -256, -88, -40, -10,
		math.MaxInt, math.MaxInt - 1, math.MaxInt32, math.MaxUint32, 1 << 32, 1<<32 + 1, 1<<32 + 40, 1 << 16, 1<<16 + 40,
		math.MinInt + 1 + 40, math.MinInt + 10,
	}
	for kind := -5; kind <= 600; kind++ {
		l = append(l, kind)
	}
	return l
}

func expectOperator(t *testing.T, b []byte, at, kind, size int) {
	t.Helper()
	if k, n := Operator(b, at); k != kind || n != size {
		t.Errorf("Operator(%q, %d) = %d, %d; want %d, %d", b, at, k, n, kind, size)
	}
}

func expectNoOperator(t *testing.T, b []byte, at int) {
	t.Helper()
	expectOperator(t, b, at, 0, 0)
}

func expectNoKeyword(t *testing.T, s string) {
	t.Helper()
	if kind := Keyword(s); kind != 0 {
		t.Errorf("Keyword(%q) = %d; want 0", s, kind)
	}
}

// longest is the operator of P6.2, by the promise's words.
func longest(b []byte, at int) (kind, size int) {
	if at < 0 || at >= len(b) {
		return 0, 0
	}
	for i, s := range strings.Fields(operators) {
		if len(s) > size && strings.HasPrefix(string(b[at:]), s) {
			kind, size = 40+i, len(s)
		}
	}
	return kind, size
}

// P6.1: the numbers of the kinds are those that the document gives.
func TestKindsAreNumbered(t *testing.T) {
	for kind, s := range map[int]string{
		api.TkName: "name", api.TkInt: "int", api.TkFloat: "float", api.TkChar: "char", api.TkString: "string",
		api.TkBreak: "break", api.TkCase: "case", api.TkChan: "chan", api.TkConst: "const", api.TkContinue: "continue",
		api.TkDefault: "default", api.TkDefer: "defer", api.TkElse: "else", api.TkFallthrough: "fallthrough",
		api.TkFor: "for", api.TkFunc: "func", api.TkGo: "go", api.TkGoto: "goto", api.TkIf: "if", api.TkImport: "import",
		api.TkInterface: "interface", api.TkMap: "map", api.TkPackage: "package", api.TkRange: "range",
		api.TkReturn: "return", api.TkSelect: "select", api.TkStruct: "struct", api.TkSwitch: "switch",
		api.TkType: "type", api.TkVar: "var",
		api.TkAdd: "+", api.TkSub: "-", api.TkMul: "*", api.TkQuo: "/", api.TkRem: "%", api.TkAnd: "&", api.TkOr: "|",
		api.TkXor: "^", api.TkShl: "<<", api.TkShr: ">>", api.TkAndNot: "&^", api.TkAddAssign: "+=",
		api.TkSubAssign: "-=", api.TkMulAssign: "*=", api.TkQuoAssign: "/=", api.TkRemAssign: "%=",
		api.TkAndAssign: "&=", api.TkOrAssign: "|=", api.TkXorAssign: "^=", api.TkShlAssign: "<<=",
		api.TkShrAssign: ">>=", api.TkAndNotAssign: "&^=", api.TkLand: "&&", api.TkLor: "||", api.TkArrow: "<-",
		api.TkInc: "++", api.TkDec: "--", api.TkEql: "==", api.TkLss: "<", api.TkGtr: ">", api.TkAssign: "=",
		api.TkNot: "!", api.TkTilde: "~", api.TkNeq: "!=", api.TkLeq: "<=", api.TkGeq: ">=", api.TkDefine: ":=",
		api.TkEllipsis: "...", api.TkLparen: "(", api.TkLbrack: "[", api.TkLbrace: "{", api.TkComma: ",",
		api.TkPeriod: ".", api.TkRparen: ")", api.TkRbrack: "]", api.TkRbrace: "}", api.TkSemi: ";", api.TkColon: ":",
		api.TkBad: "",
	} {
		if got := Spell(kind); got != s {
			t.Errorf("Spell(%d) = %q; want %q", kind, got, s)
		}
	}
}

// P6.1: a number that is missing in the map has the empty text.
func TestSpell(t *testing.T) {
	want := spelt()
	if len(want) != 5+25+48 {
		t.Fatalf("%d kinds have a text", len(want))
	}
	for _, kind := range numbers() {
		if got := Spell(kind); got != want[kind] {
			t.Errorf("Spell(%d) = %q; want %q", kind, got, want[kind])
		}
	}
}

// P6.1: the numbers just outside the ranges of kinds.
func TestSpellNothing(t *testing.T) {
	for _, kind := range []int{-1, 0, 6, 7, 8, 9, 35, 36, 37, 38, 39, 88, 89, 255, 256, 257, math.MaxInt, math.MinInt} {
		if got := Spell(kind); got != "" {
			t.Errorf("Spell(%d) = %q; want no text", kind, got)
		}
	}
}

// P6.1
func TestKeyword(t *testing.T) {
	for i, s := range strings.Fields(keywords) {
		if kind := Keyword(s); kind != 10+i {
			t.Errorf("Keyword(%q) = %d; want %d", s, kind, 10+i)
		}
		// The same text in other memory is the same keyword.
		if kind := Keyword(string([]byte(s))); kind != 10+i {
			t.Errorf("Keyword(%q) = %d; want %d", s, kind, 10+i)
		}
	}
}

// P6.1: none of these is a keyword, unless it is another one.
func TestKeywordAlmost(t *testing.T) {
	known := strings.Fields(keywords)
	expect := func(s string) {
		t.Helper()
		if !slices.Contains(known, s) {
			expectNoKeyword(t, s)
		}
	}
	for _, s := range known {
		for n := range len(s) {
			expect(s[:n])
			expect(s[n+1:])
			expect(s[:n] + s[n+1:])
			expect(s[:n] + strings.ToUpper(s[n:n+1]) + s[n+1:])
		}
		for c := range 256 {
			b := string([]byte{byte(c)})
			expect(s + b)
			expect(b + s)
			for n := range len(s) {
				expect(s[:n] + b + s[n+1:])
			}
		}
		for _, other := range known {
			expect(s + other)
			expect(s + " " + other)
		}
		expectNoKeyword(t, strings.ToUpper(s))
		expectNoKeyword(t, strings.ToUpper(s[:1])+s[1:])
	}
}

// P6.1: what names a kind is no keyword; "interface" and "struct" are.
func TestKeywordNone(t *testing.T) {
	for _, s := range []string{
		"", " ", "\x00", "name", "int", "float", "char", "string", "bad", "x", "nil", "true", "iota", "append", "Func",
		"FUNC", "funcs", "fun", "got", "gotos", "goo", "g", "types", "typ", "var ", " var", "\xff", "ｖar", "any", "_",
		strings.Repeat("func", 1000),
	} {
		expectNoKeyword(t, s)
	}
	for _, s := range strings.Fields(operators) {
		expectNoKeyword(t, s)
	}
}

// P6.2: every operator by its text, at the start, in the middle and at the end.
func TestOperator(t *testing.T) {
	for i, s := range strings.Fields(operators) {
		for _, ahead := range []string{"", "a", " ", "\x00", "(", "=", "<", ".", "&^=", "\xff\xff"} {
			for _, behind := range []string{"", "a", " ", "1", "\x00", "\x80\xff", "é", "\n"} {
				expectOperator(t, []byte(ahead+s+behind), len(ahead), 40+i, len(s))
			}
		}
	}
}

// P6.2: each operator with each byte, and with each operator, behind it.
func TestOperatorLongest(t *testing.T) {
	all := strings.Fields(operators)
	expect := func(s string) {
		t.Helper()
		for at := -1; at <= len(s)+1; at++ {
			kind, size := longest([]byte(s), at)
			expectOperator(t, []byte(s), at, kind, size)
		}
	}
	for _, s := range all {
		for c := range 256 {
			expect(s + string([]byte{byte(c)}))
		}
		for _, u := range all {
			expect(s + u)
			for _, v := range all {
				expect(s + u + v)
			}
		}
	}
}

// P6.2: the examples, spelt out.
func TestOperatorLongestByName(t *testing.T) {
	for _, c := range []struct {
		b          string
		kind, size int
	}{
		{"&^=x", api.TkAndNotAssign, 3},
		{".", api.TkPeriod, 1}, {"..", api.TkPeriod, 1}, {"...", api.TkEllipsis, 3}, {"....", api.TkEllipsis, 3}, {".. .", api.TkPeriod, 1}, {".5", api.TkPeriod, 1},
		{"&", api.TkAnd, 1}, {"&^", api.TkAndNot, 2}, {"&^=", api.TkAndNotAssign, 3}, {"&=", api.TkAndAssign, 2}, {"&&", api.TkLand, 2}, {"&&=", api.TkLand, 2}, {"& ^=", api.TkAnd, 1},
		{"<", api.TkLss, 1}, {"<<", api.TkShl, 2}, {"<<=", api.TkShlAssign, 3}, {"<=", api.TkLeq, 2}, {"<-", api.TkArrow, 2}, {"<<-", api.TkShl, 2}, {"<<<=", api.TkShl, 2}, {"<--", api.TkArrow, 2}, {"<>", api.TkLss, 1},
		{">", api.TkGtr, 1}, {">>", api.TkShr, 2}, {">>=", api.TkShrAssign, 3}, {">=", api.TkGeq, 2}, {">==", api.TkGeq, 2}, {">-", api.TkGtr, 1},
		{"!", api.TkNot, 1}, {"!=", api.TkNeq, 2}, {"!!", api.TkNot, 1}, {"!==", api.TkNeq, 2},
		{":", api.TkColon, 1}, {":=", api.TkDefine, 2}, {"::=", api.TkColon, 1}, {":==", api.TkDefine, 2},
		{"=", api.TkAssign, 1}, {"==", api.TkEql, 2}, {"===", api.TkEql, 2}, {"=<", api.TkAssign, 1}, {"=>", api.TkAssign, 1}, {"=:", api.TkAssign, 1},
		{"+", api.TkAdd, 1}, {"++", api.TkInc, 2}, {"+=", api.TkAddAssign, 2}, {"+++", api.TkInc, 2}, {"+-", api.TkAdd, 1},
		{"-", api.TkSub, 1}, {"--", api.TkDec, 2}, {"-=", api.TkSubAssign, 2}, {"->", api.TkSub, 1},
		{"|", api.TkOr, 1}, {"||", api.TkLor, 2}, {"|=", api.TkOrAssign, 2}, {"||=", api.TkLor, 2},
		{"^", api.TkXor, 1}, {"^=", api.TkXorAssign, 2}, {"^^", api.TkXor, 1},
		{"*", api.TkMul, 1}, {"*=", api.TkMulAssign, 2}, {"**", api.TkMul, 1}, {"/", api.TkQuo, 1}, {"/=", api.TkQuoAssign, 2}, {"//", api.TkQuo, 1}, {"/*", api.TkQuo, 1},
		{"%", api.TkRem, 1}, {"%=", api.TkRemAssign, 2}, {"~", api.TkTilde, 1}, {"~=", api.TkTilde, 1}, {";;", api.TkSemi, 1}, {"()", api.TkLparen, 1}, {"[]", api.TkLbrack, 1}, {"{}", api.TkLbrace, 1}, {",,", api.TkComma, 1},
	} {
		expectOperator(t, []byte(c.b), 0, c.kind, c.size)
		expectOperator(t, []byte("a "+c.b), 2, c.kind, c.size)
		expectNoOperator(t, []byte("a "+c.b), 1)
	}
}

// P6.2: what lies beyond the end of b, in its memory, is no part of b.
func TestOperatorKeepsToTheLength(t *testing.T) {
	for _, s := range strings.Fields(operators) {
		for n := range len(s) {
			kind, size := longest([]byte(s[:n]), 0)
			expectOperator(t, []byte(s)[:n], 0, kind, size)
			expectOperator(t, []byte("a" + s)[:1+n], 1, kind, size)
		}
	}
	expectOperator(t, []byte("...")[:2], 0, api.TkPeriod, 1)
	expectOperator(t, []byte("&^=")[:2], 0, api.TkAndNot, 2)
	expectOperator(t, []byte("<<=")[:2], 0, api.TkShl, 2)
	expectNoOperator(t, []byte("+")[:0], 0)
}

// P6.2: what is no index of b.
func TestOperatorAt(t *testing.T) {
	far := []int{math.MinInt, math.MinInt + 1, math.MinInt32, -100, -2, -1, math.MaxInt32, math.MaxUint32 + 1, math.MaxInt - 1, math.MaxInt}
	for _, b := range [][]byte{nil, {}, []byte("+"), []byte("..."), []byte("a+b"), bytes.Repeat([]byte("<<="), 100)} {
		for _, at := range append(far, -len(b)-1, len(b), len(b)+1, len(b)+2) {
			expectNoOperator(t, b, at)
		}
	}
}

// P6.2: a byte that no operator begins with, whatever stands behind it.
func TestOperatorNone(t *testing.T) {
	first := map[byte]struct{}{}
	for _, s := range strings.Fields(operators) {
		first[s[0]] = struct{}{}
	}
	for c := range 256 {
		if _, ok := first[byte(c)]; ok {
			continue
		}
		for _, behind := range []string{"", "+", "=", "...", "&^=", "\x00"} {
			expectNoOperator(t, append([]byte{byte(c)}, behind...), 0)
		}
	}
	for _, s := range []string{"a", "Z", "_", "0", "9", " ", "\t", "\n", "\r", "\"", "'", "`", "\x00", "\x80", "\xab", "\xff", "#", "$", "?", "@", "\\", "\x7f", "é", "≤", "＋", "x<<"} {
		expectNoOperator(t, []byte(s), 0)
	}
}

// P6.2: the other texts that Spell tells are no operators.
func TestOperatorIsNoWord(t *testing.T) {
	for _, s := range append(strings.Fields(keywords), "name", "int", "float", "char", "string") {
		expectNoOperator(t, []byte(s), 0)
		expectNoOperator(t, []byte(s+"+="), 0)
	}
}

// P6.2: Operator leaves what it is given as it is, also beyond its end.
func TestOperatorKeepsItsArgument(t *testing.T) {
	for _, s := range append(strings.Fields(operators), "", "a", "&^=x", "a...b", "\xff", strings.Repeat("<", 50)) {
		b := append(make([]byte, 0, len(s)+8), s...)
		whole := b[:cap(b)]
		before := bytes.Clone(whole)
		for at := -1; at <= len(s)+1; at++ {
			Operator(b, at)
		}
		if !bytes.Equal(whole, before) {
			t.Errorf("Operator changed %q to %q", before, whole)
		}
	}
}

// P6.3
func TestPrec(t *testing.T) {
	want := map[int]int{}
	for prec, l := range []string{1: "||", 2: "&&", 3: "== != < <= > >=", 4: "+ - | ^", 5: "* / % << >> & &^"} {
		for _, s := range strings.Fields(l) {
			want[kindOf(t, s)] = prec
		}
	}
	if len(want) != 19 {
		t.Fatalf("%d binary operators", len(want))
	}
	for _, kind := range numbers() {
		if got := Prec(kind); got != want[kind] {
			t.Errorf("Prec(%d) = %d; want %d", kind, got, want[kind])
		}
	}
}

// P6.3: by the names of the kinds.
func TestPrecByName(t *testing.T) {
	for kind, want := range map[int]int{
		api.TkLor: 1, api.TkLand: 2, api.TkEql: 3, api.TkNeq: 3, api.TkLss: 3, api.TkLeq: 3, api.TkGtr: 3, api.TkGeq: 3,
		api.TkAdd: 4, api.TkSub: 4, api.TkOr: 4, api.TkXor: 4,
		api.TkMul: 5, api.TkQuo: 5, api.TkRem: 5, api.TkShl: 5, api.TkShr: 5, api.TkAnd: 5, api.TkAndNot: 5,
		api.TkNot: 0, api.TkTilde: 0, api.TkArrow: 0, api.TkInc: 0, api.TkDec: 0, api.TkAssign: 0, api.TkDefine: 0,
		api.TkAddAssign: 0, api.TkAndNotAssign: 0, api.TkPeriod: 0, api.TkComma: 0, api.TkColon: 0, api.TkName: 0, api.TkBad: 0,
	} {
		if got := Prec(kind); got != want {
			t.Errorf("Prec(%d) = %d; want %d", kind, got, want)
		}
	}
}

// P6.3
func TestUnary(t *testing.T) {
	want := map[int]bool{}
	for _, s := range strings.Fields("+ - ! ^ * & <-") {
		want[kindOf(t, s)] = true
	}
	for _, kind := range numbers() {
		if got := Unary(kind); got != want[kind] {
			t.Errorf("Unary(%d) = %v; want %v", kind, got, want[kind])
		}
	}
}

// P6.3
func TestBase(t *testing.T) {
	want := map[int]int{kindOf(t, "++"): kindOf(t, "+"), kindOf(t, "--"): kindOf(t, "-")}
	for _, s := range strings.Fields("+= -= *= /= %= &= |= ^= <<= >>= &^=") {
		want[kindOf(t, s)] = kindOf(t, strings.TrimSuffix(s, "="))
	}
	for _, kind := range numbers() {
		if got := Base(kind); got != want[kind] {
			t.Errorf("Base(%d) = %d; want %d", kind, got, want[kind])
		}
	}
}

// P6.3: what assigns has a binary operator as its base, and an = behind other texts assigns nothing.
func TestBaseBinds(t *testing.T) {
	for _, kind := range numbers() {
		if base := Base(kind); base != 0 && Prec(base) < 4 {
			t.Errorf("Base(%d) = %d, of precedence %d", kind, base, Prec(base))
		}
	}
	for _, s := range strings.Fields("= == != <= >= :=") {
		if base := Base(kindOf(t, s)); base != 0 {
			t.Errorf("the base of %s is %d; want 0", s, base)
		}
	}
}

// P6.4
func TestEnds(t *testing.T) {
	want := map[int]bool{1: true, 2: true, 3: true, 4: true, 5: true}
	for _, s := range strings.Fields("break continue fallthrough return ++ -- ) ] }") {
		want[kindOf(t, s)] = true
	}
	for _, kind := range numbers() {
		if got := Ends(kind); got != want[kind] {
			t.Errorf("Ends(%d) = %v; want %v", kind, got, want[kind])
		}
	}
}

// P6.5
func TestTextsDiffer(t *testing.T) {
	kinds := map[string]int{}
	for kind := -1000; kind <= 1000; kind++ {
		s := Spell(kind)
		if s == "" {
			continue
		}
		if other, ok := kinds[s]; ok {
			t.Errorf("%d and %d have the text %q", other, kind, s)
		}
		kinds[s] = kind
	}
	if len(kinds) != 78 {
		t.Errorf("%d texts", len(kinds))
	}
}

// P6.1, P6.2: a kind's text leads back to the kind.
func TestTextsLeadBack(t *testing.T) {
	for kind := 10; kind <= 34; kind++ {
		if got := Keyword(Spell(kind)); got != kind {
			t.Errorf("Keyword(%q) = %d; want %d", Spell(kind), got, kind)
		}
	}
	for kind := 40; kind <= 87; kind++ {
		expectOperator(t, []byte(Spell(kind)), 0, kind, len(Spell(kind)))
	}
}

// Rule 6: the answers are the same every time, whatever was asked in between.
func TestAnswersStay(t *testing.T) {
	ask := func() (l []int) {
		for _, kind := range numbers() {
			l = append(l, len(Spell(kind)), Prec(kind), Base(kind), Keyword(Spell(kind)))
		}
		for at := range operators {
			kind, size := Operator([]byte(operators), at)
			l = append(l, kind, size)
		}
		return l
	}
	if first := ask(); !slices.Equal(first, ask()) {
		t.Error("the answers changed")
	}
}
