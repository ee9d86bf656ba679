package quote

import (
	"strconv"
	"strings"
	"testing"

	"cavil/sample"
)

// writeByWords is what P10.4 says, word by word.
func writeByWords(s string) string {
	out := `"`
	for i := range len(s) {
		switch c := s[i]; {
		case c == '"':
			out += `\"`
		case c == '\\':
			out += `\\`
		case c < 0x20 || c > 0x7e:
			out += `\x` + strconv.FormatInt(int64(c)+0x100, 16)[1:]
		default:
			out += s[i : i+1]
		}
	}
	return out + `"`
}

// expectWrite expects a literal of Write, and of Text that it inverts Write.
func expectWrite(t *testing.T, s, want string) {
	t.Helper()
	if x := Write(s); x != want {
		t.Errorf("Write(%s) = %s; want %s", sample.Short(s), x, want)
	}
	expectInverse(t, s)
}

// expectInverse expects what P10.5 says of Write: Text inverts it, and Scan finds it whole.
func expectInverse(t *testing.T, s string) {
	t.Helper()
	literal := Write(s)
	expectText(t, literal, s, nil)
	expectScan(t, []byte(literal), 0, 5, len(literal), nil)
	expectScan(t, []byte(literal+`"'`), 0, 5, len(literal), nil)
}

// P10.4: texts, with bytes of all sorts in them.
func TestWrite(t *testing.T) {
	for s, want := range map[string]string{
		"": `""`, "a": `"a"`, "abc": `"abc"`, "a b": `"a b"`, " ": `" "`, "~": `"~"`, "'": `"'"`, "`": "\"`\"", `"`: `"\""`, `\`: `"\\"`, `""`: `"\"\""`, `\\`: `"\\\\"`, `\"`: `"\\\""`, `\n`: `"\\n"`, `\x41`: `"\\x41"`, "\n": `"\x0a"`, "\r\n": `"\x0d\x0a"`, "\t": `"\x09"`, "\a\b\f\v": `"\x07\x08\x0c\x0b"`, "\x00": `"\x00"`, "\x1f": `"\x1f"`, "\x1f\x20": `"\x1f "`, "\x7e\x7f": `"~\x7f"`, "\x80": `"\x80"`, "\xff": `"\xff"`, "\xab\xCD": `"\xab\xcd"`,
		"é": `"\xc3\xa9"`, "\u20ac": `"\xe2\x82\xac"`, "\U0001f600": `"\xf0\x9f\x98\x80"`, "\ufffd": `"\xef\xbf\xbd"`, "\u0085\u2028": `"\xc2\x85\xe2\x80\xa8"`, "aé\n\"\\~": `"a\xc3\xa9\x0a\"\\~"`, "a\"\\\n\x7f": `"a\"\\\x0a\x7f"`, "\x001": `"\x001"`, "\x0a\x0a": `"\x0a\x0a"`, "\xe9a": `"\xe9a"`, "0\x000": `"0\x000"`,
		"\xc3": `"\xc3"`, "\xe2\x82": `"\xe2\x82"`, "\xed\xa0\x80": `"\xed\xa0\x80"`, "a\xffb": `"a\xffb"`, "\xff\xfe": `"\xff\xfe"`,
	} {
		expectWrite(t, s, want)
	}
}

// P10.4, P10.5: every byte by itself, and each two of them.
func TestWriteEveryByte(t *testing.T) {
	const printed = " !#$%&'()*+,-./0123456789:;<=>?@ABCDEFGHIJKLMNOPQRSTUVWXYZ[]^_`abcdefghijklmnopqrstuvwxyz{|}~"
	const digits = "0123456789abcdef"
	for i, c := range sample.EveryByte() {
		want := `\x` + digits[i/16:i/16+1] + digits[i%16:i%16+1]
		switch {
		case c == `"`, c == `\`:
			want = `\` + c
		case i < 128 && strings.Contains(printed, c):
			want = c
		}
		expectWrite(t, c, `"`+want+`"`)
		expectWrite(t, "a"+c+c+"1", `"a`+want+want+`1"`)
	}
	sample.Each(sample.EveryByte(), 2, func(s string) {
		if x := Write(s); x != writeByWords(s) {
			t.Errorf("Write(%s) = %s; want %s", sample.Short(s), x, writeByWords(s))
		}
		expectInverse(t, s)
	})
}

// P10.5: Text inverts Write of all short texts of the bytes that matter, of runes, and of bytes that are not UTF-8.
func TestTextInvertsWrite(t *testing.T) {
	sample.Each([]string{`\`, `"`, "'", "`", "\n", "\r", "x", "0", "\xff", "é"}, 4, func(s string) {
		expectWrite(t, s, writeByWords(s))
	})
	for _, r := range sampleRunes() {
		expectWrite(t, string(r), writeByWords(string(r)))
	}
	for _, s := range sample.Broken() {
		expectWrite(t, s, writeByWords(s))
		expectWrite(t, `"`+s+`\`, writeByWords(`"`+s+`\`))
	}
	all := strings.Join(sample.EveryByte(), "")
	expectWrite(t, all, writeByWords(all))
	expectWrite(t, all+all, writeByWords(all+all))
	expectInverse(t, strings.Repeat(all, 1<<12))
	// A literal can itself be written, again and again.
	s := "a\"\\\n\xff"
	for range 8 {
		expectWrite(t, s, writeByWords(s))
		s = Write(s)
	}
}

// P10.4: the library takes the literals for the same texts.
func TestWriteAgainstLibrary(t *testing.T) {
	sample.Each(sample.EveryByte(), 2, func(s string) {
		if x, e := strconv.Unquote(Write(s)); x != s || e != nil {
			t.Errorf("the library takes %s for %s, %v; want %s", Write(s), sample.Short(x), e, sample.Short(s))
		}
	})
}
