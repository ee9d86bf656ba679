package scan

import (
	"bytes"
	"slices"
	"strings"
	"testing"

	"cavil/api"
	"cavil/sample"
)

// P11.2: the ends of the ranges, and what lies just outside of them.
func TestLetter(t *testing.T) {
	in := []rune{'a', 'b', 'y', 'z', 'A', 'B', 'Y', 'Z', '_', 0xc0, 0xc1, 0xd6, 0xd8, 0xe9, 0xf6, 0xf8, 0xff, 0x100, 0x17f, 0x180, 0x24e, 0x24f}
	for _, r := range in {
		if !Letter(r) {
			t.Errorf("%#x is no letter", r)
		}
	}
	out := []rune{0, 1, ' ', '0', '1', '9', '/', ':', '@', '[', '^', '`', '{', '~', 0x7f, 0x80, 0xaa, 0xb5, 0xba, 0xbf, 0xd7, 0xf7, 0x250, 0x251, 0x3b1, 0x661, 0x6c0, 0x20ac, 0xd800, 0xdfff, 0xff21, 0xfffd, 0x10041, 0x10ffff, 0x110000, 0x7fffffff, -1, -0x61, -0x7fffffff, -0x80000000, 'a' + 1<<16, 'a' - 1<<16}
	for _, r := range out {
		if Letter(r) {
			t.Errorf("%#x is a letter", r)
		}
	}
}

// P11.2: all runes, and numbers around them.
func TestEveryLetter(t *testing.T) {
	letters := 0
	for r := rune(-1000); r <= 0x110000+1000; r++ {
		want := r >= 0xc0 && r <= 0x24f && r != 0xd7 && r != 0xf7 || r == 0x5f || r >= 0x41 && r <= 0x5a || r >= 0x61 && r <= 0x7a
		if Letter(r) != want {
			t.Errorf("Letter(%#x) = %v", r, !want)
		}
		if Letter(r) {
			letters++
		}
	}
	if letters != 26+26+1+(0x24f-0xc0+1)-2 {
		t.Errorf("%d letters", letters)
	}
}

// P11.2
func TestText(t *testing.T) {
	b := []byte("x := \"\u00e9\xff\"")
	for _, c := range []struct {
		from, to int
		want     string
	}{
		{0, 1, "x"}, {2, 4, ":="}, {5, 10, "\"\u00e9\xff\""}, {0, 10, "x := \"\u00e9\xff\""}, {1, 5, " := "}, {7, 9, "\xa9\xff"}, {9, 10, "\""},
		{0, 0, ""}, {10, 10, ""}, {3, 3, ""}, {11, 11, ""}, {0, 11, ""}, {9, 11, ""}, {10, 11, ""}, {-1, 0, ""}, {-1, 1, ""}, {-1, -1, ""}, {-1, 11, ""}, {1, 0, ""}, {4, 2, ""}, {10, 0, ""}, {11, 10, ""}, {0, -1, ""}, {3, -3, ""},
	} {
		for _, rest := range []api.Token{{}, {Kind: api.TkBad, Err: api.ErrCut}, {Kind: api.TkSemi, Auto: true}, {Kind: -1, Err: -1}} {
			rest.From, rest.To = c.from, c.to
			if got := Text(b, rest); got != c.want {
				t.Errorf("Text(%v) = %q; want %q", rest, got, c.want)
			}
		}
	}
}

// P11.2: offsets far outside, on either side and on both.
func TestTextFarOutside(t *testing.T) {
	for _, b := range [][]byte{nil, {}, []byte("x"), []byte("x := 1"), []byte("x := 1 and more")[:6]} {
		for _, at := range far(len(b)) {
			for _, other := range append(far(len(b)), 0, len(b)/2, len(b)) {
				for _, x := range []api.Token{{From: at, To: other}, {From: other, To: at}} {
					if got := Text(b, x); got != "" {
						t.Errorf("Text(%q, %v) = %q", b, x, got)
					}
				}
			}
		}
	}
}

// P11.2: the text stays as it is if the bytes change.
func TestTextIsNew(t *testing.T) {
	b := []byte("abc")
	s := Text(b, api.Token{From: 1, To: 3})
	b[1] = 'x'
	if s != "bc" {
		t.Errorf("the text has become %q", s)
	}
}

// P11.3
func TestGap(t *testing.T) {
	for _, s := range []string{
		"", " ", "\t", "\r", "\n", " \t\r\n \n", "//", "// x", "//\n", "// x\n// y\n", "// /*", "// x\r\n", "///*\n//", "//\xff", "//\u20ac\x00\n",
		"/**/", "/* */", "/* x */", "/*\n*/", "/***/", "/****/", "/*/*/", "/*//*/", "/* // */", "/* /* */", "/**//**/", "/**/ // x", " /* */ // x", "// x\n/* y */\n", "/*\xff*/", "/* \" ' ` */", "/**/\n\n\t/**/\r", "//*/", "/* **/",
	} {
		expectGap(t, s, true)
	}
	for _, s := range []string{
		"x", "1", "_", ";", "+", "/", " /", "/ ", "/ /", "/ *", "/ **/", "/=", "*/", "/*", "/*/", "/**", "/* ", "/* *", "/* * /", "/*\n", "/* x", "// x\n/*", "/**/*/", "/*/*/*/", "/**/x", "x/**/", "/**//", "/*//", "// x\nx", "//\n/", " x ", "\nx", "x\n", "/* */ /*", "/* */ \n/*/ //", "\"\"", "'", "``", "\\",
		"\x00", "\x01", "\x08", "\x0b", "\x0c", "\x0e", "\x1f", "\x7f", "\x80", "\xff", "\u00a0", "\u0085", "\u2028", "\ufeff", "\u00e9", " \x0b", "\xc3//", "/**/\xff", "#x", "\\\n",
	} {
		expectGap(t, s, false)
	}
}

// expectGap expects what Gap says of a text, and of its bytes within others.
func expectGap(t *testing.T, s string, want bool) {
	t.Helper()
	b := []byte("x" + s + "*/ x")
	kept := bytes.Clone(b)
	if got := Gap(b[1 : 1+len(s)]); got != want {
		t.Errorf("Gap(%s) = %v", sample.Short(s), got)
	}
	if !bytes.Equal(b, kept) {
		t.Errorf("Gap(%s) changes the bytes", sample.Short(s))
	}
}

// P11.3: every byte, and all short texts over the bytes that matter.
func TestGapOfShortTexts(t *testing.T) {
	if !Gap(nil) {
		t.Error("Gap(nil) = false")
	}
	check := func(s string) {
		t.Helper()
		expectGap(t, s, gapWhole.MatchString(s))
	}
	for _, c := range sample.EveryByte() {
		for _, s := range []string{"", "//", "// x\n", "/*", "/* */", "/*\n*/", " ", "\n", "/", "*"} {
			check(s + c)
			check(c + s)
			check(s + c + "*/")
		}
	}
	sample.Each([]string{"/", "*", "\n", " ", "x", "\xff"}, 6, check)
	sample.Each([]string{"//", "/*", "*/", "\n", "\r", "\t", "\"", "/"}, 5, check)
}

// P11.3: no limit holds for the bytes of a gap.
func TestLongGaps(t *testing.T) {
	const size = 1<<24 + 5
	for _, s := range []string{" \n", "/* // */\n", "/"} {
		expectGap(t, strings.Repeat(s, size/len(s)), true)
	}
	expectGap(t, strings.Repeat(" ", size)+"x", false)
	expectGap(t, "/*"+strings.Repeat(" ", size), false)
	expectGap(t, "/*"+strings.Repeat(" ", size)+"*/", true)
}

// P11.2, P11.3: the bytes that no token has are gaps, and the texts of the tokens the rest.
func TestTextsAndGapsAreTheFile(t *testing.T) {
	sample.Each([]string{"a", "08", "/", "*", "\n", " ", "'", "\xff", ")"}, 4, func(s string) {
		l := scanned(t, s)
		var texts []string
		end, rest := 0, s
		for _, x := range l {
			texts = append(texts, Text([]byte(s), x))
			expectGap(t, s[end:x.From], true)
			rest = rest[x.From-end:]
			if !strings.HasPrefix(rest, texts[len(texts)-1]) || x.Auto != (texts[len(texts)-1] == "") {
				t.Errorf("texts %q of %s", texts, sample.Short(s))
			}
			rest = rest[x.To-x.From:]
			end = x.To
		}
		expectGap(t, rest, true)
		if slices.Contains(texts, "\n") {
			t.Errorf("texts %q of %s", texts, sample.Short(s))
		}
	})
}
