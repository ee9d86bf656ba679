package scan

import (
	"errors"
	"math"
	"slices"
	"strings"
	"testing"

	"cavil/api"
	"cavil/sample"
)

// span is a token from an offset up to another one.
func span(from, to int) api.Token {
	return api.Token{Kind: api.TkName, From: from, To: to}
}

// P11.4: tokens that are sound, whatever their kinds are.
func TestSound(t *testing.T) {
	for _, c := range []struct {
		s string
		l []api.Token
	}{
		{"", nil}, {"", []api.Token{}}, {" \n // x\n/* */", nil}, {"//", nil}, {"", []api.Token{span(0, 0)}}, {"", []api.Token{span(0, 0), span(0, 0)}},
		{"ab", []api.Token{span(0, 2)}}, {"ab", []api.Token{span(0, 1), span(1, 2)}}, {"ab", []api.Token{span(0, 0), span(0, 1), span(1, 1), span(1, 2), span(2, 2)}}, {" a /* */ b // c", []api.Token{span(1, 2), span(9, 10)}}, {"// a\nb", []api.Token{span(5, 6)}},
		{"a // b\nc", []api.Token{span(0, 1), span(6, 6), span(7, 8)}}, {"a /*\n*/ b", []api.Token{span(0, 1), span(2, 2), span(8, 9)}}, {"a b\xff1 ", []api.Token{span(0, 6)}}, {" a ", []api.Token{span(0, 3)}}, {" a ", []api.Token{span(0, 1), span(1, 3)}},
		// A line comment may end with the bytes between two tokens.
		{"// a", []api.Token{span(3, 4)}}, {"//ab", []api.Token{span(2, 3), span(3, 4)}},
	} {
		expectSound(t, c.s, c.l, 0, 0)
		for i := range c.l {
			c.l[i] = api.Token{Kind: -i, From: c.l[i].From, To: c.l[i].To, Auto: i%2 == 0, Err: api.Errno(i - 1)}
		}
		expectSound(t, c.s, c.l, 0, 0)
	}
}

// P11.4: the first error, with its index.
func TestSoundErrors(t *testing.T) {
	for _, c := range []struct {
		s     string
		l     []api.Token
		off   int
		wrong api.Errno
	}{
		// From greater than To.
		{"a", []api.Token{span(1, 0)}, 0, api.ErrOrder}, {"a b", []api.Token{span(0, 1), span(3, 2)}, 1, api.ErrOrder}, {"  ", []api.Token{span(2, 1)}, 0, api.ErrOrder}, {"a b", []api.Token{span(0, 1), span(2, 1)}, 1, api.ErrOrder},
		// From less than the previous To, or than 0.
		{"ab", []api.Token{span(0, 2), span(1, 2)}, 1, api.ErrOrder}, {"ab", []api.Token{span(0, 1), span(0, 2)}, 1, api.ErrOrder}, {"ab", []api.Token{span(1, 2), span(0, 1)}, 0, api.ErrForm}, {" b", []api.Token{span(1, 2), span(0, 1)}, 1, api.ErrOrder}, {"a b", []api.Token{span(0, 1), span(0, 1), span(2, 3)}, 1, api.ErrOrder}, {"ab", []api.Token{span(0, 2), span(1, 1)}, 1, api.ErrOrder}, {"a", []api.Token{span(-1, 1)}, 0, api.ErrOrder}, {"a", []api.Token{span(-1, 0)}, 0, api.ErrOrder}, {"a", []api.Token{span(-2, -1)}, 0, api.ErrOrder}, {"a", []api.Token{span(0, 1), span(-1, 1)}, 1, api.ErrOrder}, {"", []api.Token{span(-1, -1)}, 0, api.ErrOrder},
		// To greater than the length.
		{"a", []api.Token{span(0, 2)}, 0, api.ErrOrder}, {"", []api.Token{span(0, 1)}, 0, api.ErrOrder}, {"a ", []api.Token{span(0, 1), span(2, 3)}, 1, api.ErrOrder}, {"a", []api.Token{span(0, 1), span(2, 2)}, 1, api.ErrOrder}, {"a", []api.Token{span(2, 2)}, 0, api.ErrOrder}, {"a", []api.Token{span(2, 3)}, 0, api.ErrOrder},
		// No gap ahead of a token.
		{"a", []api.Token{span(1, 1)}, 0, api.ErrForm}, {"a b", []api.Token{span(2, 3)}, 0, api.ErrForm}, {"a b c", []api.Token{span(0, 1), span(4, 5)}, 1, api.ErrForm}, {"/* a */ b", []api.Token{span(3, 4), span(8, 9)}, 0, api.ErrForm}, {"a / b", []api.Token{span(0, 1), span(4, 5)}, 1, api.ErrForm}, {"\xffb", []api.Token{span(1, 2)}, 0, api.ErrForm}, {"a /*\n b", []api.Token{span(0, 1), span(6, 7)}, 1, api.ErrForm}, {"a\x00b", []api.Token{span(0, 1), span(2, 3)}, 1, api.ErrForm}, {"ab", []api.Token{span(0, 0), span(1, 2)}, 1, api.ErrForm},
		// No gap behind the last one.
		{"a", nil, 0, api.ErrForm}, {"a b", []api.Token{span(0, 1)}, 1, api.ErrForm}, {"a b", []api.Token{span(0, 1), span(1, 1)}, 2, api.ErrForm}, {"a /* b", []api.Token{span(0, 1)}, 1, api.ErrForm}, {"a /", []api.Token{span(0, 1)}, 1, api.ErrForm}, {"a\xff", []api.Token{span(0, 1)}, 1, api.ErrForm}, {"/*", nil, 0, api.ErrForm}, {"a", []api.Token{span(0, 0)}, 1, api.ErrForm}, {"// a\n/", []api.Token{span(2, 2)}, 1, api.ErrForm},
		// The order goes ahead of the gap at one token, the first token ahead of a later one.
		{"a b", []api.Token{span(2, 1)}, 0, api.ErrOrder}, {"a b", []api.Token{span(2, 4)}, 0, api.ErrOrder}, {"a b c", []api.Token{span(2, 3), span(9, 9)}, 0, api.ErrForm}, {"a b c", []api.Token{span(3, 2), span(0, 9)}, 0, api.ErrOrder}, {"a b c", []api.Token{span(0, 1), span(4, 5), span(0, 1)}, 1, api.ErrForm}, {"a b c", []api.Token{span(0, 1), span(0, 1), span(4, 5)}, 1, api.ErrOrder}, {"a b c", []api.Token{span(0, 1), span(2, 3), span(1, 1)}, 2, api.ErrOrder},
	} {
		expectSound(t, c.s, c.l, c.off, c.wrong)
	}
}

// P11.4: the error of the tokens of the chapter's example, each left out, doubled, exchanged, moved.
func TestSoundOfChangedTokens(t *testing.T) {
	s := "x := 1 // y\n/* */ z ('a')\n"
	l := scanned(t, s)
	expectSound(t, s, l, 0, 0)
	check := func(l []api.Token) {
		t.Helper()
		off, wrong := soundByWords([]byte(s), l)
		expectSound(t, s, l, off, wrong)
	}
	for i := range l {
		check(slices.Delete(slices.Clone(l), i, i+1))
		check(slices.Insert(slices.Clone(l), i, l[i]))
		check(l[:i])
		check(l[i:])
		for j := range l {
			changed := slices.Clone(l)
			changed[i], changed[j] = changed[j], changed[i]
			check(changed)
		}
		for _, by := range []int{-100, -2, -1, 1, 2, 100, math.MinInt / 2, math.MaxInt / 2} {
			for _, c := range []api.Token{{From: by}, {To: by}, {From: by, To: by}} {
				changed := slices.Clone(l)
				changed[i].From += c.From
				changed[i].To += c.To
				check(changed)
			}
		}
	}
}

// P11.4: all short lists of tokens of short files, with offsets on either side of them.
func TestSoundOfShortLists(t *testing.T) {
	for _, s := range []string{"", "a", " ", "a ", " a", "//", "/*", "a\n/", "/**/", "\xff"} {
		var spans []api.Token
		for from := -1; from <= len(s)+1; from++ {
			for to := -1; to <= len(s)+1; to++ {
				spans = append(spans, span(from, to))
			}
		}
		expect := func(l []api.Token) {
			off, wrong := soundByWords([]byte(s), l)
			expectSound(t, s, l, off, wrong)
		}
		expect(nil)
		for _, x := range spans {
			expect([]api.Token{x})
			for _, y := range spans {
				expect([]api.Token{x, y})
			}
		}
	}
}

// P11.4: offsets far outside of the file.
func TestSoundFarOutside(t *testing.T) {
	for _, s := range []string{"", "a", "a b"} {
		for _, at := range far(len(s)) {
			for _, other := range append(far(len(s)), 0, len(s)) {
				for _, x := range []api.Token{span(at, other), span(other, at)} {
					expectSound(t, s, []api.Token{x}, 0, api.ErrOrder)
					expectSound(t, s, []api.Token{span(0, 0), x}, 1, api.ErrOrder)
				}
			}
		}
	}
	expectSound(t, "a", []api.Token{span(math.MaxInt, math.MinInt)}, 0, api.ErrOrder)
}

// P11.4: the error is the wrapper itself, with the constant itself in it.
func TestSoundErrorIsAt(t *testing.T) {
	e := Sound([]byte("a b"), nil)
	if at, ok := e.(api.At); !ok || at.Off != 0 || at.Err != api.ErrForm || errors.Is(e, api.ErrOrder) {
		t.Errorf("Sound = %#v", e)
	}
}

// P11.4, P11.5: the tokens of great files, with another byte behind the last one.
func TestSoundOfGreatFiles(t *testing.T) {
	for _, s := range []string{strings.Repeat("a /*\n*/ ", 1<<18), strings.Repeat("\xff", 1<<20), strings.Repeat("1+", 1<<19) + "// x\n", strings.Repeat(" ", 1<<24)} {
		l := scanned(t, s)
		if e := Sound([]byte(s), l); e != nil {
			t.Errorf("Sound of the tokens of %s: %v", sample.Short(s), e)
		}
		if e := Sound([]byte(s+";"), l); e != (api.At{Off: len(l), Err: api.ErrForm}) {
			t.Errorf("Sound of the tokens of %s with another byte: %v", sample.Short(s), e)
		}
	}
}
