package quote

import (
	"bytes"
	"math"
	"regexp"
	"strconv"
	"strings"
	"testing"
	"unicode/utf8"

	"cavil/api"
	"cavil/sample"
)

// sampleRunes are runes of one, two, three and four bytes, and the first and last of each length.
func sampleRunes() []rune {
	return []rune{0, 1, '\t', '\r', ' ', '!', '#', '$', '"', '`', '0', '9', 'A', '[', ']', 'a', 'n', 'u', 'x', '~', 0x7f, 0x80, 0xe9, 0x3b1, 0x7ff, 0x800, 0x20ac, 0x2028, 0xd7ff, 0xe000, 0xfeff, 0xfffd, 0xffff, 0x10000, 0x1f600, 0x10ffff}
}

var (
	lettered = regexp.MustCompile("^\\\\[abfnrtv\\\\]")
	octal    = regexp.MustCompile(`^\\([0-7][0-7][0-7])`)
	hexTwo   = regexp.MustCompile(`^\\x([0-9a-fA-F]{2})`)
	hexFour  = regexp.MustCompile(`^\\u([0-9a-fA-F]{4})`)
	hexEight = regexp.MustCompile(`^\\U([0-9a-fA-F]{8})`)
)

// escapeByWords is the escape that s begins with, word by word of the chapter's definition: its number, its bytes in a text, and its size, which is 0 if none begins there.
func escapeByWords(s, quote string) (r rune, text string, size int) {
	if lettered.MatchString(s) {
		r = map[byte]rune{'a': 7, 'b': 8, 'f': 0xc, 'n': 0xa, 'r': 0xd, 't': 9, 'v': 0xb, '\\': '\\'}[s[1]]
		return r, string(r), 2
	}
	if strings.HasPrefix(s, "\\"+quote) {
		return rune(quote[0]), quote, 2
	}
	for base, pattern := range map[int]*regexp.Regexp{8: octal, 16: hexTwo} {
		if m := pattern.FindStringSubmatch(s); m != nil {
			if n, _ := strconv.ParseInt(m[1], base, 64); n <= 255 {
				return rune(n), string([]byte{byte(n)}), len(m[0])
			}
		}
	}
	for _, pattern := range []*regexp.Regexp{hexFour, hexEight} {
		if m := pattern.FindStringSubmatch(s); m != nil {
			if n, _ := strconv.ParseInt(m[1], 16, 64); n <= 0x10ffff && (n < 0xd800 || n > 0xdfff) {
				return rune(n), string(rune(n)), len(m[0])
			}
		}
	}
	return 0, "", 0
}

// framed reports whether s begins and ends with the quote, at two different bytes.
func framed(s, quote string) bool {
	return len(s) >= 2 && strings.HasPrefix(s, quote) && strings.HasSuffix(s, quote)
}

// charByWords is what P10.2 says, word by word.
func charByWords(s string) (rune, error) {
	if !framed(s, "'") {
		return 0, api.ErrForm
	}
	part := s[1 : len(s)-1]
	if part == "" || strings.HasPrefix(part, "'") || strings.HasPrefix(part, "\n") {
		return 0, api.ErrForm
	}
	r, size := utf8.DecodeRuneInString(part)
	if part[0] == '\\' {
		if r, _, size = escapeByWords(part, "'"); size == 0 {
			return 0, api.ErrEscape
		}
	} else if r == utf8.RuneError && size == 1 {
		return 0, api.ErrUtf
	}
	if part[size:] != "" {
		return 0, api.ErrForm
	}
	return r, nil
}

// textByWords is what P10.3 says, word by word.
func textByWords(s string) (string, error) {
	if framed(s, "`") {
		if strings.Count(s, "`") > 2 {
			return "", api.ErrForm
		}
		return strings.ReplaceAll(s[1:len(s)-1], "\r", ""), nil
	}
	if !framed(s, `"`) {
		return "", api.ErrForm
	}
	var all strings.Builder
	for part := s[1 : len(s)-1]; part != ""; {
		text, size := part[:1], 1
		switch part[0] {
		case '"', '\n':
			return "", api.ErrForm
		case '\\':
			if _, text, size = escapeByWords(part, `"`); size == 0 {
				return "", api.ErrEscape
			}
		}
		all.WriteString(text)
		part = part[size:]
	}
	return all.String(), nil
}

// closing are the ways in which a literal begins with a quote, with its closing quote in a group.
var closing = map[byte]*regexp.Regexp{
	'\'': regexp.MustCompile(`^'(?:\\[^\n]|[^'\\\n])*(?:(')|\\?)`),
	'"':  regexp.MustCompile(`^"(?:\\[^\n]|[^"\\\n])*(?:(")|\\?)`),
	'`':  regexp.MustCompile("^`[^`]*(`)?"),
}

// scanByWords is what P10.1 says, word by word.
func scanByWords(b []byte, at int) (kind, size int, e error) {
	if at < 0 || at >= len(b) || closing[b[at]] == nil {
		return 0, 0, api.ErrNone
	}
	// A rune for each byte, so that the pattern goes byte by byte.
	latin := make([]rune, 0, len(b)-at)
	for _, c := range b[at:] {
		latin = append(latin, rune(c))
	}
	m := closing[b[at]].FindStringSubmatch(string(latin))
	size = utf8.RuneCountInString(m[0])
	s := string(b[at : at+size])
	switch {
	case b[at] == '\'':
		kind = 4
		_, e = charByWords(s)
	default:
		kind = 5
		_, e = textByWords(s)
	}
	if m[1] == "" {
		e = api.ErrCut
	}
	return kind, size, e
}

// expectChar expects a rune and an error of Char.
func expectChar(t *testing.T, s string, want rune, wrong error) {
	t.Helper()
	if r, e := Char(s); r != want || e != wrong {
		t.Errorf("Char(%s) = %#x, %v; want %#x, %v", sample.Short(s), r, e, want, wrong)
	}
}

// expectText expects a text and an error of Text.
func expectText(t *testing.T, s, want string, wrong error) {
	t.Helper()
	if x, e := Text(s); x != want || e != wrong {
		t.Errorf("Text(%s) = %s, %v; want %s, %v", sample.Short(s), sample.Short(x), e, sample.Short(want), wrong)
	}
}

// expectScan expects a kind, a size and an error of Scan, all three together, and no change of the bytes.
func expectScan(t *testing.T, b []byte, at, kind, size int, wrong error) {
	t.Helper()
	before := bytes.Clone(b)
	if k, n, e := Scan(b, at); k != kind || n != size || e != wrong {
		t.Errorf("Scan(%s, %d) = %d, %d, %v; want %d, %d, %v", sample.Short(string(b)), at, k, n, e, kind, size, wrong)
	}
	if !bytes.Equal(b, before) {
		t.Errorf("Scan(%s, %d) changes the bytes", sample.Short(string(before)), at)
	}
}

// expectByWords expects of Char and Text what P10.2 and P10.3 say.
func expectByWords(t *testing.T, s string) {
	t.Helper()
	r, wrong := charByWords(s)
	expectChar(t, s, r, wrong)
	x, wrong := textByWords(s)
	expectText(t, s, x, wrong)
}

// expectScanByWords expects of Scan what P10.1 says, and what P10.5 says of the literal alone.
func expectScanByWords(t *testing.T, b []byte, at int) {
	t.Helper()
	kind, size, wrong := scanByWords(b, at)
	expectScan(t, b, at, kind, size, wrong)
	if wrong == nil {
		expectScan(t, b[at:at+size:at+size], 0, kind, size, nil)
	}
}

// expectAllOffsets expects of Scan at each offset, and beyond both ends, what P10.1 says.
func expectAllOffsets(t *testing.T, s string) {
	t.Helper()
	for at := -2; at < len(s)+2; at++ {
		expectScanByWords(t, []byte(s), at)
	}
}

// far are offsets that are no index of n bytes.
func far(n int) []int {
	return []int{-1, -2, -n - 1, math.MinInt, math.MinInt + 1, math.MinInt32, n, n + 1, n + 64, 1 << 24, 1 << 32, math.MaxInt32, math.MaxInt - 1, math.MaxInt}
}
