package number

import (
	"bytes"
	"math"
	"regexp"
	"strings"
	"testing"

	"cavil/api"
	"cavil/sample"
)

var (
	starts  = regexp.MustCompile(`^(?:[0-9]|\.[0-9])`)
	hexBody = regexp.MustCompile(`^0[xX][a-zA-Z0-9_.]*`)
	anyBody = regexp.MustCompile(`^(?:[eE][+-]|[a-zA-Z0-9_.])*`)
)

// bodyByWords is the body of the literal that b begins with, word by word of the chapter's definition; the empty string if none begins there.
func bodyByWords(b []byte) string {
	if !starts.Match(b) {
		return ""
	}
	if body := hexBody.Find(b); body != nil {
		return string(body)
	}
	return string(anyBody.Find(b))
}

// scanByWords is what P9.1 says, word by word.
func scanByWords(b []byte, at int) (kind, size int, e error) {
	if at < 0 || at >= len(b) {
		return 0, 0, api.ErrNone
	}
	body := bodyByWords(b[at:])
	switch {
	case body == "":
		return 0, 0, api.ErrNone
	case !prefixed.MatchString(body) && strings.ContainsAny(body, ".eE"):
		_, e = floatByWords(body)
		return 3, len(body), e
	}
	_, e = intByWords(body)
	return 2, len(body), e
}

// expectScan expects a kind, a size and an error of Scan, all three together, and no change of the bytes.
func expectScan(t *testing.T, b []byte, at, kind, size int, wrong error) {
	t.Helper()
	before := bytes.Clone(b)
	if k, n, e := Scan(b, at); k != kind || n != size || e != wrong {
		t.Errorf("Scan(%s, %d) = %d, %d, %v; want %d, %d, %v", sample.Short(string(b)), at, k, n, e, kind, size, wrong)
	}
	if !bytes.Equal(b, before) {
		t.Errorf("Scan(%s, %d) changes the bytes", sample.Short(string(before)), at)
	}
}

// expectScanByWords expects of Scan what P9.1 says, and what P9.5 says of the byte behind.
func expectScanByWords(t *testing.T, b []byte, at int) {
	t.Helper()
	kind, size, wrong := scanByWords(b, at)
	expectScan(t, b, at, kind, size, wrong)
	expectWhole(t, b, at)
}

// expectWhole expects what P9.5 says.
func expectWhole(t *testing.T, b []byte, at int) {
	t.Helper()
	kind, size, _ := Scan(b, at)
	if kind == 0 || at+size >= len(b) {
		return
	}
	c := b[at+size]
	if c == '_' || '0' <= c && c <= '9' || 'a' <= c && c <= 'z' || 'A' <= c && c <= 'Z' {
		t.Errorf("Scan(%s, %d) ends ahead of %q", sample.Short(string(b)), at, c)
	}
}

// P9.1: kind, size and error, with bytes ahead of the literal and behind it.
func TestScan(t *testing.T) {
	for _, c := range []struct {
		s     string
		at    int
		kind  int
		size  int
		wrong error
	}{
		{"7", 0, 2, 1, nil}, {"42", 0, 2, 2, nil}, {"x 12+3", 2, 2, 2, nil}, {"1_000;", 0, 2, 5, nil}, {"(0x_fF)", 1, 2, 5, nil}, {"0b101-1", 0, 2, 5, nil}, {"0O17*2", 0, 2, 4, nil}, {"017 ", 0, 2, 3, nil}, {"0", 0, 2, 1, nil}, {"a[0]", 2, 2, 1, nil}, {"\xff1\xff", 1, 2, 1, nil}, {"é1é", 2, 2, 1, nil},
		{"1.5e+3)", 0, 3, 6, nil}, {".5", 0, 3, 2, nil}, {"5.", 0, 3, 2, nil}, {"1e3", 0, 3, 3, nil}, {"1E-3,", 0, 3, 4, nil}, {"1_0.25e1", 0, 3, 8, nil}, {"08.5/2", 0, 3, 4, nil}, {"x=.5", 2, 3, 2, nil}, {"..5", 1, 3, 2, nil}, {"0.0-1", 0, 3, 3, nil}, {"1e+1+1", 0, 3, 4, nil}, {"1e1-1", 0, 3, 3, nil},
		// Within a body another one begins.
		{"1234", 2, 2, 2, nil}, {"0x1F", 2, 2, 2, api.ErrDigit}, {"0x12", 2, 2, 2, nil}, {"1.5", 1, 3, 2, nil}, {"1.5", 2, 2, 1, nil}, {"1e+3", 3, 2, 1, nil}, {"0b12", 3, 2, 1, nil}, {"0x1e+3", 2, 3, 4, nil}, {"a1", 1, 2, 1, nil}, {"a0x1", 1, 2, 3, nil},
		// With errors the size and the kind are there all the same.
		{"08", 0, 2, 2, api.ErrDigit}, {"0b2", 0, 2, 3, api.ErrDigit}, {"1a", 0, 2, 2, api.ErrDigit}, {"12abd+", 0, 2, 5, api.ErrDigit}, {"1_2abd+", 0, 2, 6, api.ErrDigit}, {"0x", 0, 2, 2, api.ErrCut}, {"0x+1", 0, 2, 2, api.ErrCut}, {"0B;", 0, 2, 2, api.ErrCut}, {"0o", 0, 2, 2, api.ErrCut}, {"0x_", 0, 2, 3, api.ErrForm}, {"0_x1", 0, 2, 4, api.ErrForm}, {"1_", 0, 2, 2, api.ErrForm}, {"1__0 ", 0, 2, 4, api.ErrForm}, {"0d1", 0, 2, 3, api.ErrDigit}, {"1_x2", 0, 2, 4, api.ErrForm},
		{"1..2", 0, 3, 4, api.ErrForm}, {"1.2.3", 0, 3, 5, api.ErrForm}, {".5.", 0, 3, 3, api.ErrForm}, {".5.5", 0, 3, 4, api.ErrForm}, {"5...", 0, 3, 4, api.ErrForm}, {"1.x", 0, 3, 3, api.ErrForm}, {"1_.5", 0, 3, 4, api.ErrForm}, {"1._5", 0, 3, 4, api.ErrForm}, {"1.5_", 0, 3, 4, api.ErrForm}, {"1e_5", 0, 3, 4, api.ErrForm}, {"1e5_", 0, 3, 4, api.ErrForm}, {"5.String()", 0, 3, 8, api.ErrForm},
		{"1e", 0, 3, 2, api.ErrForm}, {"1e+", 0, 3, 3, api.ErrForm}, {"1e-", 0, 3, 3, api.ErrForm}, {"1e+-1", 0, 3, 3, api.ErrForm}, {"1e--1", 0, 3, 3, api.ErrForm}, {"1e+e+1", 0, 3, 6, api.ErrForm}, {"1e+e-E+E-", 0, 3, 9, api.ErrForm}, {"1e1e+1", 0, 3, 6, api.ErrForm}, {"1ae+1", 0, 3, 5, api.ErrForm}, {".5e+-", 0, 3, 4, api.ErrForm},
		{"1e155", 0, 3, 5, api.ErrOver}, {"1e123456 ", 0, 3, 8, api.ErrOver}, {"1e-155", 0, 3, 6, api.ErrOver}, {strings.Repeat("9", 155), 0, 2, 155, api.ErrOver}, {"0x1" + strings.Repeat("0", 128) + "+", 0, 2, 131, api.ErrOver}, {strings.Repeat("9", 155) + ".", 0, 3, 156, api.ErrOver},
	} {
		expectScan(t, []byte(c.s), c.at, c.kind, c.size, c.wrong)
		expectScanByWords(t, []byte(c.s), c.at)
	}
}

// P9.1: a sign belongs to the body directly after an e or E, unless the body is hexadecimal; and a dot, an e or an E make no float of a body with a prefix.
func TestScanSignsAndPrefixes(t *testing.T) {
	for _, c := range []struct {
		s          string
		kind, size int
		wrong      error
	}{
		{"1e+3", 3, 4, nil}, {"1e-3", 3, 4, nil}, {"1E+3", 3, 4, nil}, {"1E-3", 3, 4, nil}, {"1+3", 2, 1, nil}, {"1-3", 2, 1, nil}, {"1f+3", 2, 2, api.ErrDigit}, {"1.+3", 3, 2, nil}, {"1_+3", 2, 2, api.ErrForm}, {"1.5+3", 3, 3, nil}, {"1e3+3", 3, 3, nil}, {"1e +3", 3, 2, api.ErrForm}, {"1e*3", 3, 2, api.ErrForm},
		{"0x1e+3", 2, 4, nil}, {"0x1e-3", 2, 4, nil}, {"0X1E+3", 2, 4, nil}, {"0xe+3", 2, 3, nil}, {"0xE-", 2, 3, nil}, {"0x+3", 2, 2, api.ErrCut}, {"0x1.5", 2, 5, api.ErrDigit}, {"0x.5", 2, 4, api.ErrDigit}, {"0x1.e+3", 2, 5, api.ErrDigit}, {"0x1p+3", 2, 4, api.ErrDigit}, {"0x_e+1", 2, 4, nil}, {"0xe_+1", 2, 4, api.ErrForm}, {"0xge+1", 2, 4, api.ErrDigit},
		{"0b1e+1", 2, 6, api.ErrDigit}, {"0B1E-1", 2, 6, api.ErrDigit}, {"0o7e+1", 2, 6, api.ErrDigit}, {"0O7E-1", 2, 6, api.ErrDigit}, {"0b1.1", 2, 5, api.ErrDigit}, {"0o7.5", 2, 5, api.ErrDigit}, {"0b1e1", 2, 5, api.ErrDigit}, {"0o1E1", 2, 5, api.ErrDigit}, {"0be+1", 2, 5, api.ErrDigit}, {"0o.", 2, 3, api.ErrDigit}, {"0b_e-1", 2, 6, api.ErrDigit}, {"0b1+1", 2, 3, nil}, {"0o7-1", 2, 3, nil}, {"0b1_e+1", 2, 7, api.ErrDigit}, {"0b1e_+1", 2, 5, api.ErrForm}, {"0b1e+_1", 2, 7, api.ErrForm},
		// What is no prefix, since something stands ahead of it or within it.
		{"00x1e+1", 3, 7, api.ErrForm}, {".0x1e+1", 3, 7, api.ErrForm}, {"10x1e+1", 3, 7, api.ErrForm}, {"0_x1e+1", 3, 7, api.ErrForm}, {"0.x1e+1", 3, 7, api.ErrForm}, {"1x1e+1", 3, 6, api.ErrForm}, {"00b1.", 3, 5, api.ErrForm}, {".0o1", 3, 4, api.ErrForm}, {"0e+0x1", 3, 6, api.ErrForm}, {"0ex1", 3, 4, api.ErrForm}, {"0de+1", 3, 5, api.ErrForm},
	} {
		for _, ahead := range []string{"", "-", "a ", "(", "\n", "\xff"} {
			b := []byte(ahead + c.s)
			expectScan(t, b, len(ahead), c.kind, c.size, c.wrong)
			expectScanByWords(t, b, len(ahead))
		}
	}
}

// P9.1: offsets that are no index, and bytes at which no body begins.
func TestScanNone(t *testing.T) {
	for _, s := range []string{"", "1", "12.5", "0x1F", ".5", "abc", "\xff"} {
		n := len(s)
		for _, at := range []int{-1, -2, -n, -n - 1, math.MinInt, math.MinInt + 1, math.MinInt32, n, n + 1, n + 64, 1 << 32, math.MaxInt32, math.MaxInt, math.MaxInt - 1} {
			if at == 0 && n > 0 {
				continue
			}
			expectScan(t, []byte(s), at, 0, 0, api.ErrNone)
		}
	}
	expectScan(t, nil, 0, 0, 0, api.ErrNone)
	for _, s := range []string{"a1", "x", "e5", "E+1", "_1", "__", ".", "..", "..5", ".x", ".e1", "._5", ".+5", ". 5", ".\x00", ".\xff", ".é", ".５", "+1", "-1", "+.5", " 1", "\n1", "'1'", `"1"`, "(1)", "/1", ":1", "\x001", "\x801", "\xff1", "é1", "１", "٣"} {
		expectScan(t, []byte(s), 0, 0, 0, api.ErrNone)
		expectScanByWords(t, []byte(s), 0)
	}
	// The dot is the last of the bytes, whatever memory stands behind.
	expectScan(t, []byte("x.5")[:2], 1, 0, 0, api.ErrNone)
	expectScan(t, []byte("1234")[:2], 0, 2, 2, nil)
	expectScan(t, []byte("1e+5")[:2], 0, 3, 2, api.ErrForm)
	expectScan(t, []byte("0x1f")[:1], 0, 2, 1, nil)
}

// bodies are bodies of both kinds and with all errors.
func bodies() []string {
	return []string{
		"0", "7", "42", "1_000", "017", "00", "0x1F", "0X_a", "0b101", "0B1", "0o17", "0O7", "1.5", ".5", "5.", "1e3", "1E+3", "1.5e-3", "5.e1", "08.5", "0x1e", "0xE", "0xab",
		"08", "0b2", "0o8", "0xg", "1a", "1e", "1E", "1e+", "1e-", ".5e", "0x", "0X", "0b", "0O", "0x_", "0_", "1_", "1__0", "0_x1", "1.2.3", "1..", "1._5", "1e5_", "0b1e", "0o1E", "0b1.", "0x1.", "0be+", "1x", "1ee", "1e+e", "1e155", "1e000000", "1e-99999", strings.Repeat("9", 155),
	}
}

// P9.1, P9.5: bodies with every byte behind, alone and with others after it.
func TestScanFollowedByEveryByte(t *testing.T) {
	for _, body := range bodies() {
		for _, c := range []byte(everyByte()) {
			for i, tail := range []string{"", "1", "+1", "e-1", "_.5"} {
				ahead := "a"[:i%2]
				expectScanByWords(t, []byte(ahead+body+string([]byte{c})+tail), len(ahead))
			}
		}
	}
}

// P9.1, P9.5: literals in the midst of other bytes, at each offset.
func TestScanAtEveryOffset(t *testing.T) {
	b := []byte("x := 0x_fF + 1_0.25e1/.5e-1-017*(0b1e+1)\n\tvar é1 = \"2\" 3.14.15... 0x1e+3 a.b .c 5.d 1e+-1 0o8_ _7 0_x \xff9\x80 08e1 0X.5E-2 " + strings.Repeat("9", 200) + " 1e999 0b 0O1_7 4.")
	found := map[string]int{}
	for at := -3; at < len(b)+3; at++ {
		expectScanByWords(t, b, at)
		if kind, size, e := Scan(b, at); kind != 0 {
			found[string(b[at:at+size])]++
			// Alone the literal is the same one.
			expectScan(t, b[at:at+size], 0, kind, size, e)
		}
	}
	for _, s := range []string{"0x_fF", "1_0.25e1", ".5e-1", "017", "0b1e+1", "2", "3.14.15...", "0x1e", "5.d", "1e+", "0o8_", "7", "0_x", "9", "08e1", "0X.5E", "1e999", "0b", "0O1_7", "4."} {
		if found[s] == 0 {
			t.Errorf("Scan does not find %s", s)
		}
	}
	for _, body := range bodies() {
		b := []byte("<" + body + ">" + body + "é" + body + "-" + body)
		for at := range b {
			expectScanByWords(t, b, at)
		}
	}
}

// P9.1, P9.5: all short texts of the bytes that matter, at each offset.
func TestScanEveryShortText(t *testing.T) {
	atEach := func(s string) {
		for at := -1; at <= len(s); at++ {
			expectScanByWords(t, []byte(s), at)
		}
	}
	each("01xe+._", 5, atEach)
	each("08bEo-. ", 4, atEach)
	each(everyByte(), 2, atEach)
}

// P9.1: every byte at which a body begins, or does not; after a dot and alone.
func TestScanBegins(t *testing.T) {
	for _, c := range []byte(everyByte()) {
		digit := '0' <= c && c <= '9'
		if digit {
			expectScan(t, []byte{c}, 0, 2, 1, nil)
			expectScan(t, []byte{'.', c}, 0, 3, 2, nil)
			expectScan(t, []byte{c, '.'}, 0, 3, 2, nil)
		} else {
			expectScan(t, []byte{c}, 0, 0, 0, api.ErrNone)
			expectScan(t, []byte{'.', c}, 0, 0, 0, api.ErrNone)
		}
	}
}

// P9.1: long bodies, and short ones ahead of many bytes.
func TestScanLong(t *testing.T) {
	n := 1 << 16
	for _, c := range []struct {
		body  string
		kind  int
		wrong error
	}{
		{strings.Repeat("0", n), 2, nil}, {strings.Repeat("9", n), 2, api.ErrOver}, {"0x" + strings.Repeat("0", n) + "f", 2, nil}, {strings.Repeat("0", n) + ".5", 3, nil}, {"1" + strings.Repeat(".", n), 3, api.ErrForm}, {"1" + strings.Repeat("e+", n), 3, api.ErrForm}, {"1" + strings.Repeat("_", n), 2, api.ErrForm}, {"1" + strings.Repeat("x", n), 2, api.ErrDigit}, {"1e" + strings.Repeat("0", n), 3, api.ErrOver},
	} {
		expectScan(t, []byte(c.body), 0, c.kind, len(c.body), c.wrong)
		expectScan(t, []byte(" "+c.body+"+1"), 1, c.kind, len(c.body), c.wrong)
	}
	b := []byte(strings.Repeat("1 ", 1<<16))
	for at := 0; at < len(b); at += 2 {
		if kind, size, e := Scan(b, at); kind != 2 || size != 1 || e != nil {
			t.Fatalf("Scan at %d = %d, %d, %v", at, kind, size, e)
		}
	}
}
