package quote

import (
	"strconv"
	"strings"
	"testing"
	"unicode/utf8"

	"cavil/api"
	"cavil/sample"
)

// P10.3: " literals without and with escapes, empty ones, and runes of each length.
func TestText(t *testing.T) {
	for s, want := range map[string]string{
		`""`: "", `"a"`: "a", `"abc"`: "abc", `" "`: " ", `"a b"`: "a b", `"'"`: "'", `"''"`: "''", "\"`\"": "`", "\"``\"": "``", "\"a'b`c\"": "a'b`c", "\"\t\"": "\t", "\"\x00\"": "\x00", "\"\x7f\"": "\x7f", `"é"`: "é", "\"aé\u20ac\U0001f600\"": "aé\u20ac\U0001f600", `"//"`: "//", `"/*"`: "/*",
		`"a\x41\n"`: "aA\n", `"a\tb"`: "a\tb", `"\\"`: `\`, `"\\\\"`: `\\`, `"\\n"`: `\n`, `"\\\n"`: "\\\n", `"\""`: `"`, `"\"\""`: `""`, `"a\"b"`: `a"b`, `"\\\""`: `\"`, `"\a\b\t\n\v\f\r"`: "\x07\x08\x09\x0a\x0b\x0c\x0d",
		`"\000\377"`: "\x00\xff", `"\3770"`: "\xff0", `"\1011"`: "A1", `"\0618"`: "18", `"\x41\x4a\x4A"`: "AJJ", `"\x411"`: "A1", `"\x41g"`: "Ag", `"\u00e9\u20ac"`: "\u00e9\u20ac", `"\u00e99"`: "\u00e99", `"\U0001f600\U0010ffff"`: "\U0001f600\U0010ffff", `"\U000000410"`: "A0",
		// An x or octal escape is a byte; a u or U escape is a rune.
		`"\xe9"`: "\xe9", `"\351"`: "\xe9", `"\u00e9!"`: "\xc3\xa9!", `"\U000000e9"`: "\xc3\xa9", `"\xc3\xa9"`: "é", `"\303\251"`: "é", `"\x80"`: "\x80", `"\u0080"`: "\xc2\x80", `"\u007f"`: "\x7f", `"\ufffd"`: "\xef\xbf\xbd",
		// Outside of ` literals, carriage returns stay.
		"\"\r\"": "\r", "\"a\r\r\"": "a\r\r",
	} {
		expectText(t, s, want, nil)
		expectByWords(t, s)
	}
	for _, r := range sampleRunes() {
		if r != '"' {
			expectText(t, `"`+string(r)+`"`, string(r), nil)
			expectText(t, `"<`+string(r)+`>"`, "<"+string(r)+">", nil)
		}
	}
}

// P10.3: ` literals: nothing is an escape, line feeds stay, carriage returns do not.
func TestTextRaw(t *testing.T) {
	for s, want := range map[string]string{
		"``": "", "`a`": "a", "`\n`": "\n", "`a\nb\n`": "a\nb\n", "`\\`": `\`, "`\\n`": `\n`, "`\\q\\x\\u\\ud800\\400`": `\q\x\u\ud800\400`, "`\\\\`": `\\`, "`\"`": `"`, "`'`": "'", "`\"'\"`": `"'"`, "`\\\"\\'`": `\"\'`, "`\r`": "", "`\r\r`": "", "`\r\n`": "\n", "`a\\n\r\n`": "a\\n\n", "`\ra\rb\r`": "ab", "`\\r`": `\r`, "`a\n\rb`": "a\nb", "`é\u20ac\U0001f600`": "é\u20ac\U0001f600", "`\x00`": "\x00", "`\xff\x80`": "\xff\x80", "`\xe2\x82`": "\xe2\x82",
		// Without the carriage return between them, two pieces are an encoding.
		"`\xc3\r\xa9`": "é",
	} {
		expectText(t, s, want, nil)
		expectByWords(t, s)
	}
	for _, s := range []string{"```", "````", "`a`b`", "``a`", "`a``", "`\\``", "`\\`\\`", "`\n`\n`", "`\r`\r`", "`\xff`\xff`", "`\"`\"`"} {
		expectText(t, s, "", api.ErrForm)
		expectByWords(t, s)
	}
}

// P10.3: every byte in literals of each quote, alone, between others, and behind a backslash.
func TestTextEveryByte(t *testing.T) {
	named := map[string]string{"a": "\x07", "b": "\x08", "t": "\x09", "n": "\x0a", "v": "\x0b", "f": "\x0c", "r": "\x0d", `\`: `\`, `"`: `"`}
	for _, c := range sample.EveryByte() {
		switch c {
		case `"`, "\n":
			expectText(t, `"`+c+`"`, "", api.ErrForm)
		case `\`:
			expectText(t, `"`+c+`"`, "", api.ErrEscape)
		default:
			expectText(t, `"`+c+`"`, c, nil)
		}
		if want, ok := named[c]; ok {
			expectText(t, `"\`+c+`"`, want, nil)
		} else {
			expectText(t, `"\`+c+`"`, "", api.ErrEscape)
		}
		for _, quote := range []string{`"`, "`", "'"} {
			for _, s := range []string{c, "a" + c, c + "a", c + c, `\` + c, `\\` + c, `\` + c + "00000000", `a\` + c + "é", c + `\`, c + "\n"} {
				expectByWords(t, quote+s+quote)
			}
		}
	}
}

// P10.3: every byte in the place of each digit of every escape, with more behind it.
func TestTextOfNumbers(t *testing.T) {
	for _, s := range []string{`\101`, `\x41`, `\u0041`, `\U00000041`} {
		for i := 1; i < len(s); i++ {
			for _, c := range sample.EveryByte() {
				expectByWords(t, `"`+s[:i]+c+s[i+1:]+`"`)
				expectByWords(t, `"z`+s[:i]+c+s[i+1:]+`1"`)
			}
		}
	}
}

// P10.3: backslashes at which no escape begins, with good text on both sides.
func TestTextNoEscape(t *testing.T) {
	for _, s := range append(noEscapes(), `\'`, `\'a`) {
		for _, ahead := range []string{"", "a", `\n`, `\\`, `\"`, "\xff", "é"} {
			expectText(t, `"`+ahead+s+`"`, "", api.ErrEscape)
			for _, more := range []string{" ", "z", `\n`, "\n", "\xff", `"`} {
				expectByWords(t, `"`+ahead+s+more+`"`)
			}
		}
	}
	for _, s := range []string{`"\x4""`, `"\x""`, `"\00""`, `"\u004""`, `"\U0000004""`, `"\0""`, `"\"`, `"a\"`, `"\\\"`} {
		expectText(t, s, "", api.ErrEscape)
		expectByWords(t, s)
	}
}

// P10.3: bytes that are not UTF-8 stay in both kinds of literals.
func TestTextNotUtf(t *testing.T) {
	for _, s := range sample.Broken() {
		expectText(t, `"`+s+`"`, s, nil)
		expectText(t, "`"+s+"`", s, nil)
		expectText(t, `"a`+s+`\x41é"`, "a"+s+"Aé", nil)
		expectText(t, "`a"+s+"\\x41é`", "a"+s+`\x41é`, nil)
	}
}

// P10.3: wrong frames, and quotes and line feeds within.
func TestTextForm(t *testing.T) {
	for _, s := range []string{
		"", `"`, "`", "'", `\`, "a", "ab", "abc", `"a`, `a"`, "`a", "a`", "\"a`", "`a\"", `"a'`, `'a"`, "'a`", "`a'", `'a'`, "''", `'\n'`, `'"a"'`, "aa", `"\`, `"a\`, `\"`, "`\\", `\""`,
		`"""`, `"a"b"`, `""a"`, `"a""`, `""""`, "\"\n\"", "\"a\nb\"", "\"\n", "\"\r\n\"", "\"\\\\\n\"", "\"\\n\n\"", `"\\""`,
		` "a"`, `"a" `, `x"a"`, `"a"x`, "\xff\"a\"", "\"a\"\xff", "\n\"a\"", "\"a\"\n", `"a"+"b"`, `"a" "b"`, " `a`", "`a` ", "x`a`", "`a`;", "`a`+`b`", "`a`\n", "\"a`b`", "`a\"b\"",
	} {
		expectText(t, s, "", api.ErrForm)
		expectByWords(t, s)
	}
}

// P10.3: of several that are wrong, the first from the left; ahead of all, the frame.
func TestTextFirstError(t *testing.T) {
	for s, wrong := range map[string]api.Errno{
		`"\q`: api.ErrForm, `\q"`: api.ErrForm, "\"\\q`": api.ErrForm, `'\q'`: api.ErrForm,
		`"\q"a"`: api.ErrEscape, "\"\\q\n\"": api.ErrEscape, `"a\qb"c"`: api.ErrEscape, "\"\\x4\n\"": api.ErrEscape, `"\x4"1"`: api.ErrEscape, "\"\\\n\"": api.ErrEscape, `"\ud800""`: api.ErrEscape,
		`""\q"`: api.ErrForm, `"a"\q"`: api.ErrForm, "\"\n\\q\"": api.ErrForm, "\"a\nb\\q\"": api.ErrForm, `"\n"\q"`: api.ErrForm, "\"\\x41\n\\q\"": api.ErrForm, `"\""\q"`: api.ErrForm, `"\\"\q"`: api.ErrForm,
		"`\\q`\\q`": api.ErrForm, "`\"\\q\"`\"`": api.ErrForm,
	} {
		expectText(t, s, "", wrong)
		expectByWords(t, s)
	}
}

// P10.3: long literals of both kinds.
func TestTextLong(t *testing.T) {
	n := 1 << 18
	all := strings.Repeat("aé\u20ac\U0001f600\xff", n)
	expectText(t, `"`+all+`"`, all, nil)
	expectText(t, "`"+all+"`", all, nil)
	expectText(t, `"`+strings.Repeat(`\n`, n)+`"`, strings.Repeat("\n", n), nil)
	expectText(t, `"`+strings.Repeat(`\u20ac\xff\377`, n)+`"`, strings.Repeat("\u20ac\xff\xff", n), nil)
	expectText(t, "`"+strings.Repeat("\r\n", n)+"`", strings.Repeat("\n", n), nil)
	expectText(t, "`"+strings.Repeat("\r", n)+"`", "", nil)
	expectText(t, `"`+all+`\q"`, "", api.ErrEscape)
	expectText(t, `"`+all+"\n\"", "", api.ErrForm)
	expectText(t, `"`+all, "", api.ErrForm)
	expectText(t, "`"+all+"``", "", api.ErrForm)
}

// P10.2, P10.3: all short texts of the bytes that matter, framed by each quote and not framed.
func TestEveryShortText(t *testing.T) {
	both := func(s string) {
		expectByWords(t, "'"+s+"'")
		expectByWords(t, `"`+s+`"`)
		expectByWords(t, "`"+s+"`")
		expectByWords(t, s)
	}
	sample.Each([]string{`\`, "'", `"`, "`", "\n", "n", "\r"}, 5, both)
	sample.Each([]string{`\`, "x", "u", "0", "4", "a", "8", "F", "'", `"`}, 4, both)
	sample.Each([]string{`\`, "\xe2", "\x82", "\xac", "\xc3", "\xa9", "'", `"`}, 4, both)
	sample.Each([]string{`\`, "U", "0000", "d8", "00", "11", "'", "'\n\""}, 5, both)
	sample.Each(sample.EveryByte(), 2, both)
}

// P10.2, P10.3: where all is UTF-8, the library takes the same literals for the same texts.
func TestAgainstLibrary(t *testing.T) {
	hold := func(s string) {
		if !utf8.ValidString(s) {
			return
		}
		if strings.HasPrefix(s, "'") {
			// The library takes a line feed for a rune like others, and leaves what follows.
			want, _, rest, wrong := strconv.UnquoteChar(s[1:], '\'')
			good := wrong == nil && rest == "'" && s[1] != '\n'
			if r, e := Char(s); good != (e == nil) || good && r != want {
				t.Errorf("Char(%s) = %#x, %v; the library: %#x, %v", sample.Short(s), r, e, want, wrong)
			}
			return
		}
		want, wrong := strconv.Unquote(s)
		if x, e := Text(s); (e == nil) != (wrong == nil) || x != want {
			t.Errorf("Text(%s) = %q, %v; the library: %q, %v", sample.Short(s), x, e, want, wrong)
		}
	}
	all := func(s string) {
		hold("'" + s + "'")
		hold(`"` + s + `"`)
		hold("`" + s + "`")
		hold(`"` + s + "'")
		hold(s)
	}
	sample.Each([]string{`\`, "'", `"`, "`", "\n", "n", "\r", "é"}, 5, all)
	sample.Each([]string{`\`, "x", "u", "U", "00", "4", "e9", "d8", "0000", "8"}, 5, all)
	for _, c := range sample.EveryByte() {
		for _, more := range []string{"", "0", "00", "0041", "00000041", "0010ffff", "00110000", "ffffffff", "377", "400"} {
			all(`\` + c + more)
			all(`a\` + c + more + "z")
		}
	}
	for n := range 0x120 {
		for _, low := range []string{"00", "7f", "80", "FF"} {
			hex := strconv.FormatInt(int64(n)+0x10000, 16)[1:]
			all(`\u` + hex[2:] + low)
			all(`\U00` + hex + low)
		}
	}
	for _, high := range []string{"d7", "d8", "db", "dc", "df", "e0", "D8", "DF"} {
		all(`\u` + high + "ff")
		all(`\u` + high + "00")
		all(`\U0000` + high + "ff")
		all(`\U0000` + high + "00")
	}
}
