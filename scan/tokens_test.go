package scan

import (
	"slices"
	"strconv"
	"strings"
	"testing"

	"cavil/api"
	"cavil/sample"
)

// P11.1: files of several lines, with every kind of token.
func TestTokensOfFiles(t *testing.T) {
	for _, c := range [][2]string{
		{"x := 1\n", "name x | := | int 1 | ; at 6"},
		{"package p\n\nfunc f(a int) int {\n\treturn a + 1 // one more\n}\n",
			"package | name p | ; at 9 | func | name f | ( | name a | name int | ) | name int | { | return | name a | + | int 1 | ; at 56 | } | ; at 58"},
		{"import \"a/b\"\r\nvar r, s = 'r', `s`\r\n",
			"import | string \"a/b\" | ; at 13 | var | name r | , | name s | = | char 'r' | , | string `s` | ; at 34"},
		{"type T[P ~int | float] struct {\n\tf map[string]chan<- P /* a\ncomment */ g *T\n}",
			"type | name T | [ | name P | ~ | name int | | | name float | ] | struct | { | name f | map | [ | name string | ] | chan | <- | name P | ; at 55 | name g | * | name T | ; at 75 | } | ; at 77"},
		{"for i := range 0x1F {\n\tif i&^1 != 0 || i >= 1.5e+1 {\n\t\tcontinue\n\t}\n\ti++\n}\n",
			"for | name i | := | range | int 0x1F | { | if | name i | &^ | int 1 | != | int 0 | || | name i | >= | float 1.5e+1 | { | continue | ; at 63 | } | ; at 66 | name i | ++ | ; at 71 | } | ; at 73"},
		{"switch x := y.(type) {\ncase int, *T:\n\tfallthrough\ndefault:\n\tgoto L\n}\nL:\n\tselect {}",
			"switch | name x | := | name y | . | ( | type | ) | { | case | name int | , | * | name T | : | fallthrough | ; at 49 | default | : | goto | name L | ; at 66 | } | ; at 68 | name L | : | select | { | } | ; at 82"},
		{"go func() { defer g(a...); x <<= 2; x &^= ^y % 3 }()",
			"go | func | ( | ) | { | defer | name g | ( | name a | ... | ) | ; | name x | <<= | int 2 | ; | name x | &^= | ^ | name y | % | int 3 | } | ( | ) | ; at 52"},
		{"const c, d = .5, 0b1_0 / 0o17; else break interface",
			"const | name c | , | name d | = | float .5 | , | int 0b1_0 | / | int 0o17 | ; | else | break | interface"},
	} {
		expectTokens(t, c[0], c[1])
		expectByWords(t, c[0])
	}
}

// P11.1: the fields of tokens, spelt out.
func TestTokensHaveTheirFields(t *testing.T) {
	want := []api.Token{
		{Kind: api.TkName, From: 1, To: 2},
		{Kind: api.TkAssign, From: 3, To: 4},
		{Kind: api.TkInt, From: 5, To: 6},
		{Kind: api.TkSemi, From: 11, To: 11, Auto: true},
		{Kind: api.TkBad, From: 12, To: 14, Err: api.ErrDigit},
		{Kind: api.TkSemi, From: 14, To: 15},
		{Kind: api.TkBad, From: 15, To: 18, Err: api.ErrToken},
		{Kind: api.TkReturn, From: 18, To: 24},
		{Kind: api.TkSemi, From: 24, To: 24, Auto: true},
	}
	if l := scanned(t, " a = 2 // b\n09;\u20acreturn"); !slices.Equal(l, want) {
		t.Errorf("tokens %v; want %v", l, want)
	}
}

// P11.1: files without a token.
func TestNoTokens(t *testing.T) {
	for _, s := range []string{
		"", " ", "\t", "\r", " \t\r \r\n", "\n", "\n\n\n", "\r\n\r\n", "//", "// x", "//\n", "// x\n", "// x\n// y", "//\n\n//\n", "///", "// /*", "// /* \n", "// \" ' `", "//\xff\x00\u20ac",
		"/**/", "/* x */", "/*\n*/", "/***/", "/*/*/", "/* // */", "/* /* */", "/*\n\n*/\n", "/**//**/", "/**/ /**/\n/*\n*/", "/* \" */", "/*\xff*/", " /* x */ // y\n\t/**/\n", "//\r", "/*\r*/\r",
	} {
		expectTokens(t, s, "")
		expectByWords(t, s)
	}
	if l, e := Tokens(nil); len(l) != 0 || e != nil {
		t.Errorf("Tokens(nil) = %v, %v", l, e)
	}
}

// P11.1: line comments and general ones, with and without an end.
func TestComments(t *testing.T) {
	for _, c := range [][2]string{
		{"a // b", "name a | ; at 6"}, {"a // b\n", "name a | ; at 6"}, {"a // b\nc", "name a | ; at 6 | name c | ; at 8"}, {"a//\n//\nc", "name a | ; at 3 | name c | ; at 8"},
		{"a // /*\nb */", "name a | ; at 7 | name b | * | /"}, {"a /* // */ b", "name a | name b | ; at 12"}, {"a /* // */\nb", "name a | ; at 10 | name b | ; at 12"},
		{"a/**/b", "name a | name b | ; at 6"}, {"a/***/b", "name a | name b | ; at 7"}, {"a/****/b", "name a | name b | ; at 8"}, {"a/*/*/b", "name a | name b | ; at 7"}, {"a/*/**/b", "name a | name b | ; at 8"}, {"a/* / * /* */b", "name a | name b | ; at 14"},
		{"/**/a/*/**//**/", "name a | ; at 15"}, {"/***/*/", "* | /"}, {"/**/*/", "* | /"}, {"/**/ */", "* | /"}, {"/*a*/*b", "* | name b | ; at 7"},
		{"/*", "bad /*: ends too soon"}, {"/*/", "bad /*/: ends too soon"}, {"/* ", "bad /* : ends too soon"}, {"/**", "bad /**: ends too soon"}, {"/* *", "bad /* *: ends too soon"}, {"/* * /", "bad /* * /: ends too soon"}, {"a /* b\n c", "name a | bad /* b\n c: ends too soon"}, {"a\n/*\n", "name a | ; at 1 | bad /*\n: ends too soon"}, {"/*//\n", "bad /*//\n: ends too soon"}, {"/**//*", "bad /*: ends too soon"}, {"// a\n/*/ b", "bad /*/ b: ends too soon"},
		{"a /* \n // b\n \"", "name a | bad /* \n // b\n \": ends too soon"}, {"a /* \n", "name a | bad /* \n: ends too soon"}, {"return/*", "return | bad /*: ends too soon"}, {"/*\x00\xff", "bad /*\x00\xff: ends too soon"},
		{"a / /* */ / b", "name a | / | / | name b | ; at 13"}, {"a /= b", "name a | /= | name b | ; at 6"}, {"/ /", "/ | /"}, {"/ *", "/ | *"}, {"/", "/"}, {"*/", "* | /"}, {"/=/*=*/", "/="}, {"a*//", "name a | *"}, {"a*/ /b", "name a | * | / | / | name b | ; at 6"},
	} {
		expectTokens(t, c[0], c[1])
		expectByWords(t, c[0])
	}
}

// P11.1: where a line break inserts a semicolon, and at which offset.
func TestInsertedSemicolons(t *testing.T) {
	for _, c := range [][2]string{
		{"a", "name a | ; at 1"}, {"a\n", "name a | ; at 1"}, {"a\n\n", "name a | ; at 1"}, {"a \n \n b", "name a | ; at 2 | name b | ; at 7"}, {"\na", "name a | ; at 2"}, {"a  ", "name a | ; at 3"}, {"a\r\n", "name a | ; at 2"},
		{"a;", "name a | ;"}, {"a;\n", "name a | ;"}, {"a\n;", "name a | ; at 1 | ;"}, {"a\n;\n", "name a | ; at 1 | ;"}, {";", ";"}, {"\n;\n\n;", "; | ;"}, {"a;;\n", "name a | ; | ;"},
		{"a /*\n*/", "name a | ; at 2"}, {"a /*\n*/\n", "name a | ; at 2"}, {"a /*\n*/\n\n b", "name a | ; at 2 | name b | ; at 11"}, {"a/*\n*/b", "name a | ; at 1 | name b | ; at 7"}, {"a /* */ /*\n*/ b", "name a | ; at 8 | name b | ; at 15"}, {"a /*\n*/ /*\n*/ b", "name a | ; at 2 | name b | ; at 15"},
		{"a /* */\n", "name a | ; at 7"}, {"a /* */", "name a | ; at 7"}, {"a /* */ // b\n", "name a | ; at 12"}, {"a\n/*\n*/", "name a | ; at 1"}, {"a\n// b\n\nc", "name a | ; at 1 | name c | ; at 9"}, {"a // b\n/*\n*/\n", "name a | ; at 6"},
		{"+ /*\n*/ a", "+ | name a | ; at 9"}, {"+ /*\n*/\n", "+"}, {"+\n", "+"}, {"+", "+"}, {"( /*\n*/", "("}, {"; /*\n*/ a", "; | name a | ; at 9"}, {"/*\n*/ a /*\n*/", "name a | ; at 8"},
		{"09\n", "bad 09: wrong digit"}, {"'a\n", "bad 'a: ends too soon"}, {"09 /*\n*/", "bad 09: wrong digit"}, {"\u20ac\n", "bad \u20ac: no token"}, {"\xff\n", "bad \xff: not UTF-8"}, {"09", "bad 09: wrong digit"}, {"a 09\nb\n", "name a | bad 09: wrong digit | name b | ; at 6"},
		{"`\n`\n", "string `\n` | ; at 3"}, {"a `\n` b", "name a | string `\n` | name b | ; at 7"}, {"a\u00e9\n", "name a\u00e9 | ; at 3"}, {"\"\u00e9\" // \u00e9\n", "string \"\u00e9\" | ; at 10"},
		{"1\n1.\n'1'\n\"1\"", "int 1 | ; at 1 | float 1. | ; at 4 | char '1' | ; at 8 | string \"1\" | ; at 12"},
	} {
		expectTokens(t, c[0], c[1])
		expectByWords(t, c[0])
	}
}

// P11.1: each keyword and operator ahead of each way in which a line may end.
func TestWhichKindsEndAStatement(t *testing.T) {
	all := append(strings.Fields(keywords+" "+operators), "x", "forx", "1", "0x1", "1.5", "'x'", `"x"`, "`x`")
	for _, s := range all {
		known := strings.Fields(keywords + " " + operators)
		ends := slices.Contains(strings.Fields(ending), s) || !slices.Contains(known, s)
		for _, c := range []struct {
			behind string
			off    int
			same   bool
		}{
			{"", 0, false}, {"\n", 0, false}, {" \n", 1, false}, {" // y\n", 5, false}, {" // y", 5, false}, {" /*\n*/ ", 1, false}, {" /*\ny*/ /*\n*/\n", 1, false}, {" /* y */\n", 8, false}, {"\n\n", 0, false}, {"\r\n", 1, false},
			{"\n}", 0, true}, {" /*\n*/}", 1, true}, {" //\n}", 3, true},
		} {
			l := scanned(t, s+c.behind)
			want := api.Token{Kind: api.TkSemi, From: len(s) + c.off, To: len(s) + c.off, Auto: true}
			size := 1
			if c.same {
				size = 3
			}
			switch {
			case ends && (len(l) != size+1 || l[1] != want):
				t.Errorf("%s: tokens %v", sample.Short(s+c.behind), l)
			case !ends && len(l) != size:
				t.Errorf("%s: tokens %v", sample.Short(s+c.behind), l)
			}
			expectByWords(t, s+c.behind)
		}
		if l := scanned(t, s+" y"); len(l) < 2 || l[1].Auto {
			t.Errorf("%s: tokens %v", sample.Short(s+" y"), l)
		}
	}
}

// P11.1: names, of the letters at the ends of the ranges, and keywords in them.
func TestNames(t *testing.T) {
	for _, c := range [][2]string{
		{"a A z Z _ a1 a_ _1 __", "name a | name A | name z | name Z | name _ | name a1 | name a_ | name _1 | name __ | ; at 21"},
		{"\u00c0 \u024f \u00d6 \u00d8 \u00f6 \u00f8 \u00ff \u0100", "name \u00c0 | name \u024f | name \u00d6 | name \u00d8 | name \u00f6 | name \u00f8 | name \u00ff | name \u0100 | ; at 23"},
		{"\u00c0\u024f\u00d6\u00d8\u00f6\u00f8\u00ff\u01001", "name \u00c0\u024f\u00d6\u00d8\u00f6\u00f8\u00ff\u01001 | ; at 17"},
		{"\u00d7", "bad \u00d7: no token"}, {"\u00f7", "bad \u00f7: no token"}, {"\u00bf", "bad \u00bf: no token"}, {"\u0250", "bad \u0250: no token"},
		{"a\u00d7b", "name a | bad \u00d7: no token | name b | ; at 4"}, {"a\u00f7", "name a | bad \u00f7: no token"}, {"a\u00bf1", "name a | bad \u00bf: no token | int 1 | ; at 4"}, {"\u00e9\u0250\u00e9", "name \u00e9 | bad \u0250: no token | name \u00e9 | ; at 6"},
		{"\u00aa\u00b5\u00ba", "bad \u00aa: no token | bad \u00b5: no token | bad \u00ba: no token"}, {"\u03b1", "bad \u03b1: no token"}, {"x\u0661", "name x | bad \u0661: no token"}, {"\uff41", "bad \uff41: no token"}, {"\U0001f600", "bad \U0001f600: no token"}, {"\ufeffa", "bad \ufeff: no token | name a | ; at 4"}, {"\ufffd", "bad \ufffd: no token"}, {"\U0010ffff", "bad \U0010ffff: no token"}, {"\u2028", "bad \u2028: no token"}, {"\u0085", "bad \u0085: no token"}, {"\u00a0", "bad \u00a0: no token"},
		{"a\u0301", "name a | bad \u0301: no token"}, {"a$b", "name a | bad $: no token | name b | ; at 3"}, {"a@", "name a | bad @: no token"},
		{"fo for form fors _for for_ For FOR for1 f\u00f6r", "name fo | for | name form | name fors | name _for | name for_ | name For | name FOR | name for1 | name f\u00f6r | ; at 44"},
		{"go goto gotox gofunc", "go | goto | name gotox | name gofunc | ; at 20"}, {"for\u00e9 \u00e9for", "name for\u00e9 | name \u00e9for | ; at 11"}, {"for\u00d7", "for | bad \u00d7: no token"}, {"for(", "for | ("}, {"for1.5", "name for1 | float .5 | ; at 6"}, {"return1", "name return1 | ; at 7"}, {"a.b", "name a | . | name b | ; at 3"}, {"a.5", "name a | float .5 | ; at 3"}, {"int nil true iota", "name int | name nil | name true | name iota | ; at 17"},
	} {
		expectTokens(t, c[0], c[1])
		expectByWords(t, c[0])
	}
	for _, s := range strings.Fields(keywords) {
		if l := scanned(t, s); spell(l[0].Kind) != s {
			t.Errorf("Tokens(%q) = %v", s, l)
		}
		for _, name := range []string{s + "x", "x" + s, s + "_", s + "0", s + "\u00e9", "\u00e9" + s, s + s, strings.ToUpper(s), s[:1] + "_" + s[1:]} {
			expectTokens(t, name, "name "+name+" | ; at "+strconv.Itoa(len(name)))
		}
	}
}

// P11.1: literals, directly ahead of and behind other tokens, and with errors.
func TestLiterals(t *testing.T) {
	for _, c := range [][2]string{
		{"1 1.5 .5 5. 1e3 0x1F 0b1 0o7 07 1_0", "int 1 | float 1.5 | float .5 | float 5. | float 1e3 | int 0x1F | int 0b1 | int 0o7 | int 07 | int 1_0 | ; at 35"},
		{"1x", "bad 1x: wrong digit"}, {"x1", "name x1 | ; at 2"}, {"x 1", "name x | int 1 | ; at 3"}, {"1\u00e9", "int 1 | name \u00e9 | ; at 3"}, {"\u00e91", "name \u00e91 | ; at 3"}, {"1for", "bad 1for: wrong digit"}, {"1'a'", "int 1 | char 'a' | ; at 4"}, {"'a'1", "char 'a' | int 1 | ; at 4"}, {"'a'a", "char 'a' | name a | ; at 4"}, {"a'a'", "name a | char 'a' | ; at 4"}, {"\"a\"b\"c\"", "string \"a\" | name b | string \"c\" | ; at 7"}, {"\"a\"'b'`c`", "string \"a\" | char 'b' | string `c` | ; at 9"}, {"\"\"\"\"", "string \"\" | string \"\" | ; at 4"}, {"for\"a\"for", "for | string \"a\" | for"},
		{"-1+1", "- | int 1 | + | int 1 | ; at 4"}, {"1+-1", "int 1 | + | - | int 1 | ; at 4"}, {"1e+1", "float 1e+1 | ; at 4"}, {"0xe+1", "int 0xe | + | int 1 | ; at 5"}, {"1++", "int 1 | ++ | ; at 3"}, {"(1)", "( | int 1 | ) | ; at 3"}, {"1/2", "int 1 | / | int 2 | ; at 3"}, {"1//2", "int 1 | ; at 4"}, {"1/*\n*/2", "int 1 | ; at 1 | int 2 | ; at 7"}, {"a[1:2]", "name a | [ | int 1 | : | int 2 | ] | ; at 6"}, {"...5", "... | int 5 | ; at 4"}, {"..5", ". | float .5 | ; at 3"}, {"....5", "... | float .5 | ; at 5"}, {"1..", "bad 1..: malformed"}, {"1...", "bad 1...: malformed"}, {"'a'...", "char 'a' | ..."}, {".", "."}, {".a", ". | name a | ; at 2"}, {".\"a\"", ". | string \"a\" | ; at 4"}, {".'", ". | bad ': ends too soon"},
		{"08 x", "bad 08: wrong digit | name x | ; at 4"}, {"0x", "bad 0x: ends too soon"}, {"1__0+", "bad 1__0: malformed | +"}, {"1e", "bad 1e: malformed"}, {"0b2)", "bad 0b2: wrong digit | ) | ; at 4"}, {"1e+;", "bad 1e+: malformed | ;"}, {"1e1000000 \"a\"", "bad 1e1000000: overflow | string \"a\" | ; at 13"}, {"0x1.8", "bad 0x1.8: wrong digit"}, {"1i", "bad 1i: wrong digit"}, {"1_'a'", "bad 1_: malformed | char 'a' | ; at 5"},
		{"'' 'ab' '\\x' '\\z' '\xff' x", "bad '': malformed | bad 'ab': malformed | bad '\\x': wrong escape | bad '\\z': wrong escape | bad '\xff': not UTF-8 | name x | ; at 23"}, {"\"\\x\" x", "bad \"\\x\": wrong escape | name x | ; at 6"}, {"\"\\\"\"x", "string \"\\\"\" | name x | ; at 5"}, {"'\\''x", "char '\\'' | name x | ; at 5"}, {"'''", "bad '': malformed | bad ': ends too soon"}, {"\"\xff\xc3\"", "string \"\xff\xc3\" | ; at 4"}, {"`\\`\\", "string `\\` | bad \\: no token"}, {"'\u20ac'", "char '\u20ac' | ; at 5"}, {"`a\r\nb`", "string `a\r\nb` | ; at 6"},
		{"'a", "bad 'a: ends too soon"}, {"'a\n", "bad 'a: ends too soon"}, {"'\n'", "bad ': ends too soon | bad ': ends too soon"}, {"\"a\nb\"", "bad \"a: ends too soon | name b | bad \": ends too soon"}, {"\"a\\", "bad \"a\\: ends too soon"}, {"\"a\\\nb", "bad \"a\\: ends too soon | name b | ; at 5"}, {"\"a // b\nc", "bad \"a // b: ends too soon | name c | ; at 9"}, {"\"a /*\n*/", "bad \"a /*: ends too soon | * | /"}, {"`a\nb", "bad `a\nb: ends too soon"}, {"`", "bad `: ends too soon"}, {"'", "bad ': ends too soon"}, {"\"", "bad \": ends too soon"}, {"x `a\n\n", "name x | bad `a\n\n: ends too soon"}, {"'a\r\n", "bad 'a\r: ends too soon"}, {"\"//\" /*\"*/ \"/*\"", "string \"//\" | string \"/*\" | ; at 15"},
	} {
		expectTokens(t, c[0], c[1])
		expectByWords(t, c[0])
	}
}

// P11.1: operators, of which one may begin another.
func TestOperators(t *testing.T) {
	for _, c := range [][2]string{
		{"&^=...<-", "&^= | ... | <-"}, {"& ^ = && &= &^ & ^=", "& | ^ | = | && | &= | &^ | & | ^="}, {"&&&", "&& | &"}, {"&&^", "&& | ^"}, {"<<=<<<=<-<", "<<= | << | <= | <- | <"}, {">>=>>>=>", ">>= | >> | >= | >"}, {"===!==", "== | = | != | ="}, {"..", ". | ."}, {".....", "... | . | ."}, {"+++++", "++ | ++ | +"}, {"-->--=", "-- | > | -- | ="}, {"|||", "|| | |"}, {":=:", ":= | :"}, {"::=", ": | :="}, {"*=*", "*= | *"}, {"/=/", "/= | /"}, {"%=%", "%= | %"}, {"^=^", "^= | ^"}, {"~=", "~ | ="}, {"!!=", "! | !="}, {"([{,.)]};:", "( | [ | { | , | . | ) | ] | } | ; | :"}, {"<--1", "<- | - | int 1 | ; at 4"}, {"a<-b", "name a | <- | name b | ; at 4"}, {"+ +\n+", "+ | + | +"},
	} {
		expectTokens(t, c[0], c[1])
		expectByWords(t, c[0])
	}
	all := strings.Fields(operators)
	for _, s := range all {
		for _, u := range all {
			expectByWords(t, s+u)
		}
		for _, c := range sample.EveryByte() {
			expectByWords(t, s+c)
			expectByWords(t, c+s)
		}
	}
}

// P11.1: every byte alone, and behind and ahead of tokens.
func TestEveryByte(t *testing.T) {
	for i, c := range sample.EveryByte() {
		l := scanned(t, c)
		switch {
		case i >= 0x80 && (len(l) != 1 || l[0] != api.Token{Kind: api.TkBad, To: 1, Err: api.ErrUtf}):
			t.Errorf("Tokens(%q) = %v", c, l)
		case strings.Contains("\x00\x01\x07\x08\x0b\x0c\x0e\x1f#$?@\\\x7f", c) && (len(l) != 1 || l[0] != api.Token{Kind: api.TkBad, To: 1, Err: api.ErrToken}):
			t.Errorf("Tokens(%q) = %v", c, l)
		case strings.Contains("\t\n\r ", c) && len(l) != 0:
			t.Errorf("Tokens(%q) = %v", c, l)
		}
		for _, s := range []string{"", "a", "1", "for", "'a'", "\"a\"", "`a`", "+", ".", "/", "// a", "/* a */", "/*", "'", "\"", "`", "\\", "\n", " ", "\xc3", "\u00e9", "\u20ac", "09"} {
			expectByWords(t, s+c)
			expectByWords(t, c+s)
			expectByWords(t, s+c+s)
			expectByWords(t, "a"+c+s+"\n"+c)
		}
	}
}

// P11.1: bytes that are not UTF-8, alone, in names, comments and literals, and at the end.
func TestBrokenBytes(t *testing.T) {
	for _, c := range [][2]string{
		{"\xff", "bad \xff: not UTF-8"}, {"\xe2\x82", "bad \xe2: not UTF-8 | bad \x82: not UTF-8"}, {"\xc3", "bad \xc3: not UTF-8"}, {"a\xc3", "name a | bad \xc3: not UTF-8"}, {"a\xc3b", "name a | bad \xc3: not UTF-8 | name b | ; at 3"}, {"\xc3\xc3\xa9", "bad \xc3: not UTF-8 | name \u00e9 | ; at 3"}, {"\xe2a\xac", "bad \xe2: not UTF-8 | name a | bad \xac: not UTF-8"}, {"\xc0\x80", "bad \xc0: not UTF-8 | bad \x80: not UTF-8"}, {"\xed\xa0\x80", "bad \xed: not UTF-8 | bad \xa0: not UTF-8 | bad \x80: not UTF-8"}, {"\xf4\x90\x80\x80", "bad \xf4: not UTF-8 | bad \x90: not UTF-8 | bad \x80: not UTF-8 | bad \x80: not UTF-8"},
		{"a // \xff\xc3", "name a | ; at 7"}, {"a // \xff\nb", "name a | ; at 6 | name b | ; at 8"}, {"/*\xff\n\xc3*/ b\xff", "name b | bad \xff: not UTF-8"}, {"\"\xff\" \xff", "string \"\xff\" | bad \xff: not UTF-8"}, {"'\xff' `\xff`", "bad '\xff': not UTF-8 | string `\xff` | ; at 7"}, {"'\xe2\x82' x", "bad '\xe2\x82': not UTF-8 | name x | ; at 6"}, {"\"\xff", "bad \"\xff: ends too soon"}, {"1\xff2", "int 1 | bad \xff: not UTF-8 | int 2 | ; at 3"}, {"+\x80+", "+ | bad \x80: not UTF-8 | +"}, {"\u00e9\x80", "name \u00e9 | bad \x80: not UTF-8"}, {"\u20ac\x80", "bad \u20ac: no token | bad \x80: not UTF-8"},
	} {
		expectTokens(t, c[0], c[1])
		expectByWords(t, c[0])
	}
	around := []string{"", "a", "1", "\u00e9", "\u20ac", "'", "\"", "`", "//", "/*", "*/", "\n", " ", "+", "\\", "\x80"}
	for _, s := range sample.Broken() {
		for _, u := range around {
			for _, v := range around {
				expectByWords(t, u+s+v)
			}
		}
	}
}

// P11.1, P11.5: all short files over the bytes that matter.
func TestTokensOfShortFiles(t *testing.T) {
	for _, c := range []struct {
		pieces string
		n      int
	}{
		{"a 0 . e / * \n \t ' \" ` \\ ) + \u00e9 =", 4},
		{"/ * \n a ) \t", 6},
		{"a 1 / ' \n \xc3 \xa9 \x97 \xff", 5},
		{"' \" ` \\ \n x 1", 5},
		{"0 x . e _ - 9 \t", 5},
		{"& ^ = < - . : | !", 5},
		{"\n a ; /*\n*/ /**/ //\n ++ for \r", 5},
	} {
		var pieces []string
		for _, p := range strings.Split(c.pieces, " ") {
			// A blank parts the pieces, so that a tab stands for it.
			pieces = append(pieces, strings.ReplaceAll(p, "\t", " "))
		}
		sample.Each(pieces, c.n, func(s string) { expectByWords(t, s) })
	}
}

// P11.1: files of many bytes; only one of more than MaxFile is too long.
func TestLongFiles(t *testing.T) {
	const most = 1 << 24
	for _, c := range []struct {
		head, body, tail string
		want             []api.Token
	}{
		{"", " ", "", nil}, {"", "\n", "", nil}, {"//", "x", "", nil}, {"/*", "*", "*/", nil},
		{"", "x", "", []api.Token{{Kind: api.TkName, To: most}, {Kind: api.TkSemi, From: most, To: most, Auto: true}}},
		{"/*", "x", "", []api.Token{{Kind: api.TkBad, To: most, Err: api.ErrCut}}},
		{"\"", "x", "", []api.Token{{Kind: api.TkBad, To: most, Err: api.ErrCut}}},
		{"`", "\n", "`", []api.Token{{Kind: api.TkString, To: most}, {Kind: api.TkSemi, From: most, To: most, Auto: true}}},
		{"x", "\n", "x", []api.Token{{Kind: api.TkName, To: 1}, {Kind: api.TkSemi, From: 1, To: 1, Auto: true}, {Kind: api.TkName, From: most - 1, To: most}, {Kind: api.TkSemi, From: most, To: most, Auto: true}}},
	} {
		b := []byte(c.head + strings.Repeat(c.body, most-len(c.head)-len(c.tail)) + c.tail)
		if l, e := Tokens(b); e != nil || !slices.Equal(l, c.want) {
			t.Errorf("Tokens of %s: %v, %v", sample.Short(string(b)), l, e)
		}
		if l, e := Tokens(append(b, ' ')); len(l) != 0 || e != api.ErrLong {
			t.Errorf("Tokens of one byte more than %s: %v, %v", sample.Short(string(b)), l, e)
		}
	}
	if l, e := Tokens(make([]byte, most*2)); len(l) != 0 || e != api.ErrLong {
		t.Errorf("Tokens of %d bytes: %v, %v", most*2, l, e)
	}
}

// P11.1: files of many tokens, among which the inserted ones count.
func TestManyTokens(t *testing.T) {
	const most = 1 << 20
	for _, c := range []struct {
		body  string
		times int
		tail  string
		fits  bool
	}{
		{";", most, " // x\n/*\n*/", true}, {";", most, "/*", false},
		{")", most - 1, "", true}, {")", most, "", false}, {")", most - 1, "\n;", false},
		{"x\n", most / 2, "\n//\n", true}, {"x\n", most / 2, "x", false},
		{"\xff", 1 << 24, "", false},
	} {
		b := []byte(strings.Repeat(c.body, c.times) + c.tail)
		l, e := Tokens(b)
		switch {
		case c.fits && (e != nil || len(l) != most):
			t.Errorf("Tokens of %d %q and %q: %d tokens, %v", c.times, c.body, c.tail, len(l), e)
		case !c.fits && (len(l) != 0 || e != api.ErrLong):
			t.Errorf("Tokens of %d %q and %q: %d tokens, %v", c.times, c.body, c.tail, len(l), e)
		}
	}
}

// P11.1: a result keeps its tokens whatever becomes of the bytes and of another result.
func TestTokensAreNew(t *testing.T) {
	b := []byte("a = 1\nb")
	l, _ := Tokens(b)
	kept := slices.Clone(l)
	again, _ := Tokens(b)
	for i := range again {
		again[i] = api.Token{}
	}
	for i := range b {
		b[i] = '\n'
	}
	if !slices.Equal(l, kept) {
		t.Errorf("tokens %v have become %v", kept, l)
	}
}
