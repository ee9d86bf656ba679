package quote

import (
	"strings"
	"testing"

	"cavil/api"
	"cavil/sample"
)

// scanned is a literal that stands at the beginning of a text, with what Scan says of it.
type scanned struct {
	s          string
	kind, size int
	wrong      error
}

// good are literals of each quote without an error, with what may stand behind them.
func good() []scanned {
	return []scanned{
		{"'a'", 4, 3, nil}, {"'é'x", 4, 4, nil}, {"'\u20ac'", 4, 5, nil}, {"'\U0001f600''", 4, 6, nil}, {`'\n'`, 4, 4, nil}, {`'\''`, 4, 4, nil}, {`'\'''`, 4, 4, nil}, {`'\\'`, 4, 4, nil}, {`'\\'\'`, 4, 4, nil}, {`'"'"`, 4, 3, nil}, {"'`'`", 4, 3, nil}, {`'\377'7`, 4, 6, nil}, {`'\x27'`, 4, 6, nil}, {`'\u00e9';`, 4, 8, nil}, {`'\U0001f600',`, 4, 12, nil}, {"'\r'", 4, 3, nil}, {"' ' '", 4, 3, nil}, {"'\x00'", 4, 3, nil}, {"'a'b'", 4, 3, nil}, {"'a'\n", 4, 3, nil}, {"'a'\xff", 4, 3, nil},
		{`""`, 5, 2, nil}, {`"""`, 5, 2, nil}, {`"ab" x`, 5, 4, nil}, {`"a"b"`, 5, 3, nil}, {`"\""`, 5, 4, nil}, {`"\"""`, 5, 4, nil}, {`"\\"`, 5, 4, nil}, {`"\\"\"`, 5, 4, nil}, {`"\\\""`, 5, 6, nil}, {`"'"`, 5, 3, nil}, {"\"`\"", 5, 3, nil}, {"\"'`'\"'", 5, 5, nil}, {`"a\x41\n"`, 5, 9, nil}, {`"\000\377\u00e9\U0001f600"+`, 5, 26, nil}, {"\"\r\"", 5, 3, nil}, {"\"\xff\xc3\"", 5, 4, nil}, {"\"é\u20ac\U0001f600\"", 5, 11, nil}, {"\"a\"\n\"b\"", 5, 3, nil}, {`"//"`, 5, 4, nil}, {"\"\x00\t\"", 5, 4, nil},
		{"``", 5, 2, nil}, {"```", 5, 2, nil}, {"`a` `", 5, 3, nil}, {"`a\nb` ", 5, 5, nil}, {"`\n\n\n`", 5, 5, nil}, {"`\\`", 5, 3, nil}, {"`\\``", 5, 3, nil}, {"`\\q\\`x", 5, 5, nil}, {"`\"'`", 5, 4, nil}, {"`'\"\n'\"`'", 5, 7, nil}, {"`\r\n`", 5, 4, nil}, {"`\r`\r", 5, 3, nil}, {"`\xff\xc3`", 5, 4, nil}, {"`\\\n`", 5, 4, nil}, {"`é`é", 5, 4, nil}, {"`a`\n`b`", 5, 3, nil},
	}
}

// bad are literals with a closing quote and an error, with what may stand behind them.
func bad() []scanned {
	return []scanned{
		{"''", 4, 2, api.ErrForm}, {"'''", 4, 2, api.ErrForm}, {"''''", 4, 2, api.ErrForm}, {"''a'", 4, 2, api.ErrForm}, {"'ab'c", 4, 4, api.ErrForm}, {"'aé'", 4, 5, api.ErrForm}, {`'\na'`, 4, 5, api.ErrForm}, {`'a\n'`, 4, 5, api.ErrForm}, {`'\n\n'`, 4, 6, api.ErrForm}, {`'a\''`, 4, 5, api.ErrForm}, {`'\'\''`, 4, 6, api.ErrForm}, {`'\'a'`, 4, 5, api.ErrForm}, {`'a\q'`, 4, 5, api.ErrForm}, {"'a\xff'", 4, 4, api.ErrForm}, {`'\3777'`, 4, 7, api.ErrForm}, {`'"a"'`, 4, 5, api.ErrForm}, {`'\\\''`, 4, 6, api.ErrForm},
		{`'\q'`, 4, 4, api.ErrEscape}, {`'\"'`, 4, 4, api.ErrEscape}, {"'\\`'`", 4, 4, api.ErrEscape}, {`'\8'`, 4, 4, api.ErrEscape}, {`'\0'`, 4, 4, api.ErrEscape}, {`'\08'`, 4, 5, api.ErrEscape}, {`'\400'`, 4, 6, api.ErrEscape}, {`'\x'`, 4, 4, api.ErrEscape}, {`'\x4'1'`, 4, 5, api.ErrEscape}, {`'\u00e'9'`, 4, 7, api.ErrEscape}, {`'\ud800'`, 4, 8, api.ErrEscape}, {`'\U00110000'`, 4, 12, api.ErrEscape}, {`'\Uffffffff'`, 4, 12, api.ErrEscape}, {"'\\\r'", 4, 4, api.ErrEscape}, {"'\\\xff'", 4, 4, api.ErrEscape}, {`'\x\''`, 4, 6, api.ErrEscape}, {"'\\é'", 4, 5, api.ErrEscape},
		{"'\xff'", 4, 3, api.ErrUtf}, {"'\x80'", 4, 3, api.ErrUtf}, {"'\xc3'\xa9'", 4, 3, api.ErrUtf}, {"'\xe2\x82'\xac", 4, 4, api.ErrUtf}, {"'\xed\xa0\x80'", 4, 5, api.ErrUtf}, {"'\xffa'", 4, 4, api.ErrUtf}, {"'\xff\\q'", 4, 5, api.ErrUtf}, {`'` + "\xff" + `\''`, 4, 5, api.ErrUtf},
		{`"\q"`, 5, 4, api.ErrEscape}, {`"\'"`, 5, 4, api.ErrEscape}, {"\"\\`\"", 5, 4, api.ErrEscape}, {`"a\x4" 1"`, 5, 6, api.ErrEscape}, {`"\400"`, 5, 6, api.ErrEscape}, {`"\x\""`, 5, 6, api.ErrEscape}, {`"\ud800"`, 5, 8, api.ErrEscape}, {"\"\\\r\"", 5, 4, api.ErrEscape}, {"\"\\\xff\"", 5, 4, api.ErrEscape}, {`"ok\n\\\" \z ok"`, 5, 16, api.ErrEscape},
	}
}

// cut are literals without a closing quote, with what stands behind them.
func cut() []scanned {
	return []scanned{
		{"'", 4, 1, api.ErrCut}, {"'a", 4, 2, api.ErrCut}, {"'ab", 4, 3, api.ErrCut}, {"'\xff", 4, 2, api.ErrCut}, {`'\`, 4, 2, api.ErrCut}, {`'\'`, 4, 3, api.ErrCut}, {`'\\`, 4, 3, api.ErrCut}, {`'\\\'`, 4, 5, api.ErrCut}, {`'\q`, 4, 3, api.ErrCut}, {`'a"`, 4, 3, api.ErrCut}, {"'a`", 4, 3, api.ErrCut}, {"'a\r", 4, 3, api.ErrCut},
		{"'\n", 4, 1, api.ErrCut}, {"'\n'", 4, 1, api.ErrCut}, {"'a\n'", 4, 2, api.ErrCut}, {"'\\\n'", 4, 2, api.ErrCut}, {"'\\\n", 4, 2, api.ErrCut}, {"'\\\\\n'", 4, 3, api.ErrCut}, {"'\\'\n'", 4, 3, api.ErrCut}, {"'\\\\\\\n'", 4, 4, api.ErrCut}, {"'a\r\n'", 4, 3, api.ErrCut}, {"'\\\r\n'", 4, 3, api.ErrCut}, {"'\\q\n", 4, 3, api.ErrCut}, {"'\xff\n'", 4, 2, api.ErrCut}, {"'\\x4\n1'", 4, 4, api.ErrCut},
		{`"`, 5, 1, api.ErrCut}, {`"a`, 5, 2, api.ErrCut}, {`"\`, 5, 2, api.ErrCut}, {`"a\`, 5, 3, api.ErrCut}, {`"\"`, 5, 3, api.ErrCut}, {`"a\"`, 5, 4, api.ErrCut}, {`"\\\"`, 5, 5, api.ErrCut}, {`"\\`, 5, 3, api.ErrCut}, {`"a'`, 5, 3, api.ErrCut}, {"\"a`", 5, 3, api.ErrCut}, {"\"\xff", 5, 2, api.ErrCut}, {`"\q`, 5, 3, api.ErrCut},
		{"\"\n", 5, 1, api.ErrCut}, {"\"a\nb\"", 5, 2, api.ErrCut}, {"\"\\\n\"", 5, 2, api.ErrCut}, {"\"\\\\\n\"", 5, 3, api.ErrCut}, {"\"\\\"\n\"", 5, 3, api.ErrCut}, {"\"\r\n\"", 5, 2, api.ErrCut}, {"\"\\q\n\"", 5, 3, api.ErrCut}, {"\"\\\\\\\n\"", 5, 4, api.ErrCut}, {"\"\\\r\n\"", 5, 3, api.ErrCut},
		{"`", 5, 1, api.ErrCut}, {"`a", 5, 2, api.ErrCut}, {"`\n", 5, 2, api.ErrCut}, {"`a\nb\n", 5, 5, api.ErrCut}, {"`\\", 5, 2, api.ErrCut}, {"`a'\"\n\"'", 5, 7, api.ErrCut}, {"`\xff", 5, 2, api.ErrCut}, {"`\r\n\r\n", 5, 5, api.ErrCut}, {"`\\\n\\", 5, 4, api.ErrCut},
	}
}

// P10.1: kind, size and error all three together, with bytes of all sorts ahead of the literal.
func TestScan(t *testing.T) {
	for _, l := range [][]scanned{good(), bad(), cut()} {
		for _, c := range l {
			for _, ahead := range []string{"", " ", "x", "'", `"`, "`", `\`, "\n", "\r\n", "é", "\xff", `a = "\`, "/* ' */"} {
				expectScan(t, []byte(ahead+c.s), len(ahead), c.kind, c.size, c.wrong)
			}
			expectAllOffsets(t, c.s)
		}
	}
}

// P10.1: what stands beyond the length of b, in its memory, belongs to no literal.
func TestScanKeepsToTheLength(t *testing.T) {
	for _, c := range good() {
		for n := 1; n < c.size; n++ {
			kind, size, wrong := scanByWords([]byte(c.s[:n]), 0)
			expectScan(t, []byte(c.s)[:n], 0, kind, size, wrong)
			if kind != c.kind {
				t.Errorf("the literal %s has the kind %d", sample.Short(c.s), kind)
			}
		}
		expectScan(t, []byte(c.s)[:c.size], 0, c.kind, c.size, nil)
	}
}

// P10.1: offsets that are no index, and every byte that is no quote.
func TestScanNone(t *testing.T) {
	for _, s := range []string{"", "'", `"`, "`", "'a'", `"ab"`, "`a\n`", "x", "\xff"} {
		for _, at := range far(len(s)) {
			expectScan(t, []byte(s), at, 0, 0, api.ErrNone)
		}
	}
	expectScan(t, nil, 0, 0, 0, api.ErrNone)
	expectScan(t, []byte("''")[:1], 1, 0, 0, api.ErrNone)
	for _, c := range sample.EveryByte() {
		for _, more := range []string{"", "'a'", `"a"`, "`a`", c} {
			if strings.ContainsAny(c, "'\"`") {
				expectScanByWords(t, []byte(c+more), 0)
			} else {
				expectScan(t, []byte(c+more), 0, 0, 0, api.ErrNone)
			}
		}
	}
}

// P10.1, P10.5: literals in the midst of other bytes, at each offset, and within literals too.
func TestScanAtEveryOffset(t *testing.T) {
	s := "x := 'a' + \"b\\n\\\"'c\" + `d\\\n\"'e` // it's\n\tvar é = '\\'' ; f(\"\\q\", '', 'ab', \"unclosed\n, '\\u00e9','\xff') \"\xff\xc3\" `\r\n` '\\U0010ffff' \"\\\\\" '\n\\'\"\\\n`not closed ' \" \n\\"
	expectAllOffsets(t, s)
	found := map[string]int{}
	for at := range len(s) {
		if kind, size, _ := Scan([]byte(s), at); kind != 0 {
			found[s[at:at+size]]++
		}
	}
	for _, x := range []string{"'a'", `"b\n\"'c"`, "`d\\\n\"'e`", "'s", `'\''`, `"\q"`, "''", "'ab'", `"unclosed`, `'\u00e9'`, "'\xff'", "\"\xff\xc3\"", "`\r\n`", `'\U0010ffff'`, `"\\"`, "'", `"\`, "`not closed ' \" \n\\"} {
		if found[x] == 0 {
			t.Errorf("Scan does not find %s", x)
		}
	}
}

// P10.1, P10.5: every byte within literals of each quote, alone, behind a backslash, and behind the literal.
func TestScanEveryByte(t *testing.T) {
	for _, quote := range []string{"'", `"`, "`"} {
		for _, c := range sample.EveryByte() {
			for _, s := range []string{c, c + "a", "a" + c, c + c, `\` + c, `\\` + c, `\` + c + `\`, c + `\` + quote, `\` + c + "000"} {
				for _, tail := range []string{"", quote, quote + c, quote + quote, c + quote, "\n" + quote} {
					expectScanByWords(t, []byte(quote+s+tail), 0)
				}
			}
		}
	}
}

// P10.1, P10.5: all short texts of the bytes that matter, at each offset.
func TestScanEveryShortText(t *testing.T) {
	atEach := func(s string) { expectAllOffsets(t, s) }
	sample.Each([]string{"'", `"`, "`", `\`, "\n"}, 5, atEach)
	sample.Each([]string{"'", `"`, `\`, "\n", "n", "0", "x"}, 4, atEach)
	sample.Each([]string{"'", "`", `\`, "\r", "\xc3", "\xa9"}, 4, atEach)
	sample.Each([]string{`"`, `\`, "\n"}, 7, atEach)
	sample.Each(sample.EveryByte(), 1, atEach)
}

// P10.1: long literals, closed ones and others, with each of the errors.
func TestScanLong(t *testing.T) {
	n := 1 << 20
	as, slashes, lines := strings.Repeat("a", n), strings.Repeat(`\`, n), strings.Repeat("a\n", n)
	for _, c := range []scanned{
		{`"` + as + `"b`, 5, n + 2, nil}, {"`" + lines + "`b", 5, 2*n + 2, nil}, {"`" + slashes + "`b", 5, n + 2, nil}, {`"` + slashes + `"b`, 5, n + 2, nil}, {`"` + slashes + `\"b"`, 5, n + 5, nil},
		{"'" + as + "'b", 4, n + 2, api.ErrForm}, {"'" + slashes + "'b", 4, n + 2, api.ErrForm}, {"'\xff" + as + "'b", 4, n + 3, api.ErrUtf}, {`'\q` + as + "'b", 4, n + 4, api.ErrEscape}, {`"` + as + `\q"`, 5, n + 4, api.ErrEscape},
		{`"` + as, 5, n + 1, api.ErrCut}, {"'" + as + "\n'", 4, n + 1, api.ErrCut}, {"`" + lines, 5, 2*n + 1, api.ErrCut}, {`"` + slashes, 5, n + 1, api.ErrCut}, {`"` + slashes + `\`, 5, n + 2, api.ErrCut}, {`"` + slashes + `\"`, 5, n + 3, api.ErrCut}, {"\"" + slashes + "\\\n\"", 5, n + 2, api.ErrCut},
	} {
		expectScan(t, []byte(c.s), 0, c.kind, c.size, c.wrong)
		expectScan(t, []byte("\n"+c.s), 1, c.kind, c.size, c.wrong)
	}
}

// P10.1: many short literals in one file take little time each.
func TestScanMany(t *testing.T) {
	b := []byte(strings.Repeat("'a' ", 1<<18))
	for at := 0; at < len(b); at += 4 {
		if kind, size, e := Scan(b, at); kind != 4 || size != 3 || e != nil {
			t.Fatalf("Scan at %d = %d, %d, %v", at, kind, size, e)
		}
	}
}

// P10.5: Scan of a literal that Scan has returned without an error.
func TestScanOfLiteralAlone(t *testing.T) {
	for _, c := range good() {
		for _, ahead := range []string{"", "x", "\"", "\n"} {
			b := []byte(ahead + c.s)
			kind, size, e := Scan(b, len(ahead))
			if e != nil {
				t.Errorf("Scan(%s) = %v", sample.Short(c.s), e)
			}
			alone := append([]byte{}, b[len(ahead):len(ahead)+size]...)
			expectScan(t, alone, 0, kind, len(alone), nil)
		}
	}
}
