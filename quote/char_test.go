package quote

import (
	"strings"
	"testing"

	"cavil/api"
	"cavil/sample"
)

// P10.2: runes of each length, each of them as it is.
func TestCharOfRunes(t *testing.T) {
	for _, r := range sampleRunes() {
		expectChar(t, "'"+string(r)+"'", r, nil)
		expectByWords(t, "'"+string(r)+"'")
	}
	for r := rune(0); r <= 0x10ffff; r++ {
		want := r
		var wrong error
		switch {
		case r >= 0xd800 && r <= 0xdfff:
			continue
		case r == '\'' || r == '\n':
			want, wrong = 0, api.ErrForm
		case r == '\\':
			want, wrong = 0, api.ErrEscape
		}
		if x, e := Char("'" + string(r) + "'"); x != want || e != wrong {
			t.Fatalf("Char of the rune %#x = %#x, %v; want %#x, %v", r, x, e, want, wrong)
		}
	}
}

// P10.2: each escape, and the bounds of each.
func TestCharOfEscapes(t *testing.T) {
	for s, want := range map[string]rune{
		`\a`: 7, `\b`: 8, `\t`: 9, `\n`: 10, `\v`: 11, `\f`: 12, `\r`: 13, `\\`: '\\', `\'`: '\'',
		`\000`: 0, `\001`: 1, `\007`: 7, `\010`: 8, `\077`: 63, `\100`: 64, `\177`: 127, `\200`: 128, `\303`: 195, `\377`: 255,
		`\x00`: 0, `\x01`: 1, `\x0a`: 10, `\x27`: '\'', `\x5C`: '\\', `\x7f`: 127, `\x80`: 128, `\xe9`: 0xe9, `\xff`: 255, `\xFF`: 255, `\xfF`: 255, `\xFf`: 255, `\xaB`: 0xab,
		`\u0000`: 0, `\u0041`: 'A', `\u00e9`: 0xe9, `\u00E9`: 0xe9, `\u0100`: 0x100, `\u20ac`: 0x20ac, `\uabCD`: 0xabcd, `\ud7ff`: 0xd7ff, `\uD7FF`: 0xd7ff, `\ue000`: 0xe000, `\ufffd`: 0xfffd, `\uffff`: 0xffff,
		`\U00000000`: 0, `\U00000041`: 'A', `\U000000e9`: 0xe9, `\U0000d7ff`: 0xd7ff, `\U0000e000`: 0xe000, `\U0000ffff`: 0xffff, `\U00010000`: 0x10000, `\U0001f600`: 0x1f600, `\U0001F600`: 0x1f600, `\U000fffff`: 0xfffff, `\U0010ffff`: 0x10ffff, `\U0010FFFF`: 0x10ffff,
	} {
		expectChar(t, "'"+s+"'", want, nil)
		expectByWords(t, "'"+s+"'")
		// Nothing may follow, nor stand ahead.
		for _, more := range []string{"a", "0", "f", "é", "\xff", "\n", `\`, `\n`, "'", `\'`, " ", s} {
			expectChar(t, "'"+s+more+"'", 0, api.ErrForm)
		}
		for _, ahead := range []string{"a", "é", " ", "\""} {
			expectChar(t, "'"+ahead+s+"'", 0, api.ErrForm)
		}
	}
}

// noEscapes are backslashes at which no escape begins, in neither kind of literal.
func noEscapes() []string {
	return []string{
		`\`, `\q`, `\z`, `\A`, `\B`, `\N`, `\X41`, `\e`, `\s`, `\ `, "\\`", `\?`, `\/`, `\-`, `\+1`, "\\\n", "\\\r", "\\\x00", "\\\x80", "\\\xff", `\é`, `\8`, `\9`,
		`\0`, `\1`, `\7`, `\00`, `\07`, `\37`, `\77`, `\0a`, `\00a`, `\0 0`, `\400`, `\401`, `\477`, `\500`, `\666`, `\700`, `\777`, `\4000`, `\08`, `\080`, `\008`, `\009`, `\018`, `\800`, `\900`, `\380`, `\378`, `\389`, `\0_0`, `\+00`, `\0x1`, `\00\`,
		`\x`, `\x4`, `\xf`, `\xg`, `\x4g`, `\xg4`, `\x_4`, `\x4_1`, `\x+4`, `\x-4`, `\x 4`, `\x4\`, `\x0x41`, `\xé1`, "\\x4\n", "\\x\n41", "\\x4\xff",
		`\u`, `\u0`, `\u00`, `\u00e`, `\u00eg`, `\u00g9`, `\ug0e9`, `\u_00e9`, `\u+0e9`, `\u-001`, `\u0x41`, `\u00e\`, `\u{e9}`, `\ud800`, `\uD800`, `\udbff`, `\udc00`, `\udfff`, `\uDFFF`, `\ud83d\ude00`, "\\u00e\n",
		`\U`, `\U0`, `\U00e9`, `\U000000e`, `\U0000004g`, `\Ug0000041`, `\U+0000041`, `\U-0000041`, `\U0x000041`, `\U0_000041`, `\U0000d800`, `\U0000dfff`, `\U0000DFFF`, `\U00110000`, `\U00110001`, `\U001fffff`, `\U00200000`, `\U01000000`, `\U0fffffff`, `\U10000000`, `\U7fffffff`, `\U80000000`, `\U80000041`, `\Uffffffff`, `\UFFFFFFFF`, `\Uffff0041`,
	}
}

// P10.2: backslashes at which no escape begins, with nothing and with more behind them.
func TestCharNoEscape(t *testing.T) {
	for _, s := range append(noEscapes(), `\"`, `\"a`, `\""`) {
		expectChar(t, "'"+s+"'", 0, api.ErrEscape)
		for _, more := range []string{"", " ", "z", "zz", "\n", "\xff"} {
			expectByWords(t, "'"+s+more+"'")
		}
	}
	// A digit that lacks is not the quote behind, and a quote within ends no number.
	for _, s := range []string{`'\x4''`, `'\x''`, `'\00''`, `'\u004''`, `'\U0000004''`, `'\0''`} {
		expectChar(t, s, 0, api.ErrEscape)
	}
}

// P10.2: every byte behind a backslash, alone, and with digits behind it.
func TestCharEveryByteAfterBackslash(t *testing.T) {
	named := map[string]rune{"a": 7, "b": 8, "t": 9, "n": 10, "v": 11, "f": 12, "r": 13, "\\": '\\', "'": '\''}
	for _, c := range sample.EveryByte() {
		want, ok := named[c]
		if ok {
			expectChar(t, `'\`+c+"'", want, nil)
		} else {
			expectChar(t, `'\`+c+"'", 0, api.ErrEscape)
		}
		for _, more := range []string{"0", "00", "0000", "00000000", "41", "77", "\n", "'", c} {
			expectByWords(t, `'\`+c+more+"'")
		}
	}
}

// P10.2: all numbers of octal and x escapes; every byte in the place of each digit of every escape.
func TestCharOfNumbers(t *testing.T) {
	const octal, small, great = "01234567", "0123456789abcdef", "0123456789ABCDEF"
	for n := range 512 {
		s := `'\` + octal[n>>6:n>>6+1] + octal[n>>3&7:n>>3&7+1] + octal[n&7:n&7+1] + "'"
		if n < 256 {
			expectChar(t, s, rune(n), nil)
		} else {
			expectChar(t, s, 0, api.ErrEscape)
		}
	}
	for n := range 256 {
		expectChar(t, `'\x`+small[n>>4:n>>4+1]+great[n&15:n&15+1]+"'", rune(n), nil)
		expectChar(t, `'\x`+great[n>>4:n>>4+1]+small[n&15:n&15+1]+"'", rune(n), nil)
	}
	for _, s := range []string{`\101`, `\x41`, `\u0041`, `\U00000041`} {
		for i := 1; i < len(s); i++ {
			for _, c := range sample.EveryByte() {
				expectByWords(t, "'"+s[:i]+c+s[i+1:]+"'")
			}
		}
	}
}

// P10.2: too few digits and too many; with digits of a base each, so that it is the count alone.
func TestCharCountsDigits(t *testing.T) {
	for head, digits := range map[string]int{`\`: 3, `\x`: 2, `\u`: 4, `\U`: 8} {
		for n := range 12 {
			s := "'" + head + strings.Repeat("0", n) + "'"
			switch {
			case n < digits && !(n == 0 && head == `\`):
				expectChar(t, s, 0, api.ErrEscape)
			case n == digits:
				expectChar(t, s, 0, nil)
			case n > digits:
				expectChar(t, s, 0, api.ErrForm)
			}
		}
	}
}

// P10.2: what is not UTF-8, alone and with more behind it.
func TestCharNotUtf(t *testing.T) {
	for _, s := range sample.Broken() {
		for _, more := range []string{"", "a", "'", "\n", "é", `\n`, "\xff"} {
			expectChar(t, "'"+s+more+"'", 0, api.ErrUtf)
		}
		// Some of them a byte completes.
		expectByWords(t, "'"+s+"\x80'")
		// Behind a rune, or an escape, something follows.
		for _, ahead := range []string{"a", "é", `\n`, `\x41`} {
			expectChar(t, "'"+ahead+s+"'", 0, api.ErrForm)
		}
	}
	// The quote is no part of an encoding, nor is what stands in memory behind the text.
	expectChar(t, "'\xc3'\xa9'"[:3], 0, api.ErrUtf)
	expectChar(t, "'\xc3'\xa9'", 0, api.ErrUtf)
}

// P10.2: wrong frames, and parts that are no rune.
func TestCharForm(t *testing.T) {
	for _, s := range []string{
		"", "'", `"`, "`", `\`, "a", "ab", "abc", "'a", "a'", `'a"`, `"a'`, "'a`", "`a'", `'\n`, `\n'`, `'\n"`, `"a"`, "`a`", `""`, "``", `"'a'"`, "aa", `"\n"`,
		"''", "'''", "''''", "'''''", "''a'", "'\n'", "'\n\n'", "'\na'", "'\n\\q'", "'\n\xff'", `''\q'`, "''\xff'", "'a\n'", "'a''", "'ab'", "'éa'", "'aé'", "'éé'", "'a\\n'", `'\na'`, `'\n\n'`, "'\\n\n'", "'a\\'", `'\'\'`, `'\\\'`, `'\\'\'`, "'\r\n'", "'\r\r'", "'\ta'",
		" 'a'", "'a' ", "x'a'", "'a'x", "\xff'a'", "'a'\xff", "\n'a'", "'a'\n", "'a''b'", "'a' 'b'", "é'a'", "'a';",
	} {
		expectChar(t, s, 0, api.ErrForm)
		expectByWords(t, s)
	}
	expectChar(t, `'\'`, 0, api.ErrEscape)
	expectChar(t, `'\''`, '\'', nil)
	expectChar(t, `'\'''`, 0, api.ErrForm)
	expectChar(t, `'\\\'`, 0, api.ErrForm)
	expectChar(t, "'\r'", '\r', nil)
	expectChar(t, `'"'`, '"', nil)
	expectChar(t, "'`'", '`', nil)
}

// P10.2: of several that are wrong, the first as the chapter orders them.
func TestCharFirstError(t *testing.T) {
	for s, wrong := range map[string]api.Errno{
		`'\q`: api.ErrForm, "'\xff": api.ErrForm, `\q'`: api.ErrForm, "\xff'": api.ErrForm, `"\q'`: api.ErrForm,
		`'\qa'`: api.ErrEscape, `'\q\q'`: api.ErrEscape, "'\\q\xff'": api.ErrEscape, "'\\q\n'": api.ErrEscape, `'\q''`: api.ErrEscape, `'\ud800a'`: api.ErrEscape, `'\400a'`: api.ErrEscape,
		"'\xffa'": api.ErrUtf, "'\xff\\q'": api.ErrUtf, "'\xff\n'": api.ErrUtf, "'\xff''": api.ErrUtf,
		`'a\q'`: api.ErrForm, "'a\xff'": api.ErrForm, `'\n\q'`: api.ErrForm, "'\\n\xff'": api.ErrForm,
		"'\n\\q'": api.ErrForm, "'\n\xff'": api.ErrForm, `''\q'`: api.ErrForm, "''\xff'": api.ErrForm,
	} {
		expectChar(t, s, 0, wrong)
		expectByWords(t, s)
	}
}

// P10.2: long parts.
func TestCharLong(t *testing.T) {
	n := 1 << 20
	for s, wrong := range map[string]error{
		"'" + strings.Repeat("a", n) + "'": api.ErrForm, `'\n` + strings.Repeat("a", n) + "'": api.ErrForm, "'\xff" + strings.Repeat("a", n) + "'": api.ErrUtf, `'\q` + strings.Repeat("a", n) + "'": api.ErrEscape, "'a" + strings.Repeat("'", n): api.ErrForm, "'" + strings.Repeat("'", n): api.ErrForm, "'" + strings.Repeat(`\`, n) + "'": api.ErrForm, "'" + strings.Repeat("a", n): api.ErrForm, strings.Repeat("a", n) + "'": api.ErrForm,
	} {
		expectChar(t, s, 0, wrong)
	}
}
