package edit

import (
	"bytes"
	"errors"
	"math"
	"math/big"
	"slices"
	"strings"
	"testing"
	"unicode/utf8"

	"cavil/api"
)

const least, most = math.MinInt, math.MaxInt

func ed(from, to int, text string) api.Edit { return api.Edit{From: from, To: to, Text: text} }

func list(l ...api.Edit) []api.Edit { return l }

// replaced is b with the edits carried out from the last one to the first, each at its own place: no offset has to be moved.
func replaced(b []byte, l []api.Edit) []byte {
	b = bytes.Clone(b)
	for _, x := range slices.Backward(l) {
		b = slices.Concat(b[:x.From], []byte(x.Text), b[x.To:])
	}
	return b
}

// origins is, for each byte of the result of valid edits, the offset in the file of size bytes where it comes from; -1 for a byte of a Text.
func origins(size int, l []api.Edit) []int {
	var all []int
	for off := range size {
		all = append(all, off)
	}
	for _, x := range slices.Backward(l) {
		all = slices.Replace(all, x.From, x.To, slices.Repeat([]int{-1}, len(x.Text))...)
	}
	return all
}

// grown is how much l lengthens a file, in integers without bounds, of which Go's int keeps the lowest 64 bits.
func grown(l []api.Edit) int {
	sum := new(big.Int)
	for _, x := range l {
		sum.Add(sum, big.NewInt(int64(len(x.Text))))
		sum.Sub(sum, big.NewInt(int64(x.To)))
		sum.Add(sum, big.NewInt(int64(x.From)))
	}
	sum.And(sum, new(big.Int).SetUint64(math.MaxUint64))
	return int(sum.Uint64())
}

// mapped is what P4.3 says of Map, word by word.
func mapped(l []api.Edit, off int) (int, bool) {
	var below []api.Edit
	for i, x := range l {
		if x.From <= off && off < x.To {
			return x.From + grown(l[:i]), false
		}
		if x.To <= off {
			below = append(below, x)
		}
	}
	return off + grown(below), true
}

// backed is what P4.3 says of Back, word by word.
func backed(l []api.Edit, off int) (int, bool) {
	var below []api.Edit
	for i, x := range l {
		start := x.From + grown(l[:i])
		if start <= off && off < start+len(x.Text) {
			return x.From, false
		}
		if start+len(x.Text) <= off {
			below = append(below, x)
		}
	}
	return off - grown(below), true
}

// faulty is what P4.1 says of the edit of l at index i, word by word; 0 if it is without fault.
func faulty(b []byte, l []api.Edit, i int) api.Errno {
	x := l[i]
	inside := func(at int) bool { return at < len(b) && b[at] >= 0x80 && b[at] <= 0xbf }
	switch {
	case x.From > x.To, i > 0 && x.From < l[i-1].To, i > 0 && x.From == l[i-1].From:
		return api.ErrOrder
	case x.From < 0, x.To > len(b), inside(x.From), inside(x.To):
		return api.ErrRange
	case !utf8.ValidString(x.Text):
		return api.ErrUtf
	}
	return 0
}

// small is edits with From and To between -1 and size + 1, those whose To is less than their From among them, with each of the texts.
func small(size int, texts ...string) []api.Edit {
	var l []api.Edit
	for from := -1; from <= size+1; from++ {
		for to := -1; to <= size+1; to++ {
			for _, text := range texts {
				l = append(l, ed(from, to, text))
			}
		}
	}
	return l
}

// pairs calls f with each list of at most two of the edits.
func pairs(all []api.Edit, f func(l []api.Edit)) {
	f(nil)
	for _, x := range all {
		f(list(x))
		for _, y := range all {
			f(list(x, y))
		}
	}
}

// triples calls f with each list of three of the edits.
func triples(all []api.Edit, f func(l []api.Edit)) {
	pairs(all, func(l []api.Edit) {
		for _, z := range all {
			if len(l) == 2 {
				f(list(l[0], l[1], z))
			}
		}
	})
}

func expectValid(t *testing.T, b string, l ...api.Edit) {
	t.Helper()
	if e := Check([]byte(b), l); e != nil {
		t.Errorf("Check(%q, %v) = %#v; want no error", b, l, e)
	}
}

// expectFault expects the error of Check, from all functions that return it, with nothing beside it.
func expectFault(t *testing.T, b string, off int, want api.Errno, l ...api.Edit) {
	t.Helper()
	at := api.At{Off: off, Err: want}
	if e := Check([]byte(b), l); e != at {
		t.Errorf("Check(%q, %v) = %#v; want %#v", b, l, e, at)
	}
	if r, e := Apply([]byte(b), l); len(r) != 0 || e != at {
		t.Errorf("Apply(%q, %v) = %q, %#v; want %#v", b, l, r, e, at)
	}
	if r, e := Invert([]byte(b), l); len(r) != 0 || e != at {
		t.Errorf("Invert(%q, %v) = %v, %#v; want %#v", b, l, r, e, at)
	}
}

func expectApply(t *testing.T, b, want string, l ...api.Edit) {
	t.Helper()
	expectValid(t, b, l...)
	if r, e := Apply([]byte(b), l); e != nil || string(r) != want {
		t.Errorf("Apply(%q, %v) = %q, %v; want %q", b, l, r, e, want)
	}
}

func expectMap(t *testing.T, l []api.Edit, off, want int, is bool) {
	t.Helper()
	if to, ok := Map(l, off); to != want || ok != is {
		t.Errorf("Map(%v, %d) = %d, %v; want %d, %v", l, off, to, ok, want, is)
	}
}

func expectBack(t *testing.T, l []api.Edit, off, want int, is bool) {
	t.Helper()
	if to, ok := Back(l, off); to != want || ok != is {
		t.Errorf("Back(%v, %d) = %d, %v; want %d, %v", l, off, to, ok, want, is)
	}
}

func expectGrow(t *testing.T, want int, l ...api.Edit) {
	t.Helper()
	if n := Grow(l); n != want {
		t.Errorf("Grow(%v) = %d; want %d", l, n, want)
	}
}

func expectInvert(t *testing.T, b string, l []api.Edit, want ...api.Edit) {
	t.Helper()
	if r, e := Invert([]byte(b), l); e != nil || !slices.Equal(r, want) {
		t.Errorf("Invert(%q, %v) = %v, %v; want %v", b, l, r, e, want)
	}
}

// P4.1
func TestCheck(t *testing.T) {
	expectValid(t, "abcd")
	expectValid(t, "")
	expectValid(t, "", ed(0, 0, ""))
	expectValid(t, "", ed(0, 0, "new"))
	expectValid(t, "abcd", ed(1, 2, "XY"))
	expectValid(t, "abcd", ed(0, 0, "x"), ed(4, 4, "x"))
	expectValid(t, "abcd", ed(0, 1, ""), ed(3, 4, ""))
	expectValid(t, "abcd", ed(0, 4, ""))
	expectValid(t, "abcd", ed(2, 2, ""))
	expectValid(t, "abcd", ed(1, 3, "bc"))
	// They touch.
	expectValid(t, "abcd", ed(0, 1, "x"), ed(1, 2, "y"), ed(2, 4, "z"))
	expectValid(t, "abcd", ed(0, 2, ""), ed(2, 2, "x"))
	expectValid(t, "abcd", ed(0, 2, ""), ed(2, 2, "x"), ed(3, 4, ""))
	expectValid(t, "aéb", ed(0, 1, "é"), ed(1, 3, "€\U0001f600"), ed(3, 4, "\U0010ffff\x00"))
	// A file of runes of all lengths: at the boundaries.
	expectValid(t, "aé€\U0001f600", ed(0, 0, ""), ed(1, 1, ""), ed(3, 3, ""), ed(6, 6, ""), ed(10, 10, ""))
}

// P4.1: what is wrong with one edit.
func TestCheckOneFault(t *testing.T) {
	expectFault(t, "abcd", 0, api.ErrOrder, ed(2, 1, ""))
	expectFault(t, "abcd", 0, api.ErrOrder, ed(4, 0, "x"))
	expectFault(t, "", 0, api.ErrOrder, ed(0, -1, ""))
	expectFault(t, "abcd", 0, api.ErrRange, ed(-1, 2, ""))
	expectFault(t, "abcd", 0, api.ErrRange, ed(-1, -1, ""))
	expectFault(t, "abcd", 0, api.ErrRange, ed(-2, 0, ""))
	expectFault(t, "abcd", 0, api.ErrRange, ed(3, 5, ""))
	expectFault(t, "abcd", 0, api.ErrRange, ed(5, 5, ""))
	expectFault(t, "", 0, api.ErrRange, ed(0, 1, ""))
	expectFault(t, "", 0, api.ErrRange, ed(1, 1, "x"))
	expectFault(t, "abcd", 0, api.ErrUtf, ed(0, 4, "\x80"))
	expectFault(t, "abcd", 0, api.ErrUtf, ed(4, 4, "ok\xc3"))
	expectFault(t, "", 0, api.ErrUtf, ed(0, 0, "\xed\xa0\x80"))
	expectFault(t, "abcd", 0, api.ErrUtf, ed(1, 2, "\xc0\x80"))
	// Inside of a rune's bytes.
	expectFault(t, "aéb", 0, api.ErrRange, ed(1, 2, ""))
	expectFault(t, "aéb", 0, api.ErrRange, ed(2, 2, "x"))
	expectFault(t, "aéb", 0, api.ErrRange, ed(2, 3, ""))
	for _, off := range []int{2, 4, 5, 7, 8, 9} {
		expectFault(t, "aé€\U0001f600", 0, api.ErrRange, ed(0, off, ""))
		expectFault(t, "aé€\U0001f600", 0, api.ErrRange, ed(off, off, ""))
		expectFault(t, "aé€\U0001f600", 0, api.ErrRange, ed(off, 10, ""))
	}
	expectFault(t, "abcd", 0, api.ErrRange, ed(least, most, ""))
	expectFault(t, "abcd", 0, api.ErrRange, ed(least, least, ""))
	expectFault(t, "abcd", 0, api.ErrRange, ed(most, most, ""))
	expectFault(t, "abcd", 0, api.ErrRange, ed(0, most, ""))
	expectFault(t, "abcd", 0, api.ErrRange, ed(least, 0, ""))
	expectFault(t, "abcd", 0, api.ErrOrder, ed(most, least, ""))
	expectFault(t, "abcd", 0, api.ErrOrder, ed(0, least, ""))
	expectFault(t, "abcd", 0, api.ErrOrder, ed(most, 0, ""))
}

// P4.1: how an edit may not stand to the one before it.
func TestCheckOrder(t *testing.T) {
	expectFault(t, "abcd", 1, api.ErrOrder, ed(0, 2, ""), ed(1, 3, ""))
	expectFault(t, "abcd", 1, api.ErrOrder, ed(1, 4, ""), ed(2, 3, ""))
	expectFault(t, "abcd", 1, api.ErrOrder, ed(2, 3, ""), ed(0, 1, ""))
	expectFault(t, "abcd", 1, api.ErrOrder, ed(2, 4, ""), ed(3, 3, "x"))
	expectFault(t, "abcd", 1, api.ErrOrder, ed(1, 1, "x"), ed(0, 0, "x"))
	// From is its From: two insertions at one place, at any place, or what removes there.
	expectFault(t, "abcd", 1, api.ErrOrder, ed(0, 0, "x"), ed(0, 0, "y"))
	expectFault(t, "abcd", 1, api.ErrOrder, ed(2, 2, "x"), ed(2, 2, "y"))
	expectFault(t, "abcd", 1, api.ErrOrder, ed(4, 4, ""), ed(4, 4, ""))
	expectFault(t, "", 1, api.ErrOrder, ed(0, 0, "x"), ed(0, 0, "y"))
	expectFault(t, "abcd", 1, api.ErrOrder, ed(1, 1, "x"), ed(1, 2, ""))
	expectFault(t, "abcd", 1, api.ErrOrder, ed(1, 2, "x"), ed(1, 2, "x"))
	// An insertion between two edits may touch the first one only.
	expectFault(t, "abcd", 2, api.ErrOrder, ed(0, 2, ""), ed(2, 2, "x"), ed(2, 4, ""))
	expectFault(t, "abcd", 2, api.ErrOrder, ed(0, 1, ""), ed(1, 1, "x"), ed(1, 1, "y"))
	// Only the edit right before counts, and it is without fault there.
	expectFault(t, "abcd", 2, api.ErrOrder, ed(0, 1, ""), ed(2, 4, ""), ed(1, 2, ""))
}

// P4.1: of two faults in one edit the first named counts, of two faulty edits the first one.
func TestCheckFirstFault(t *testing.T) {
	expectFault(t, "abcd", 0, api.ErrOrder, ed(6, 5, ""))
	expectFault(t, "abcd", 0, api.ErrOrder, ed(-1, -2, ""))
	expectFault(t, "abcd", 0, api.ErrOrder, ed(2, 1, "\x80"))
	expectFault(t, "aéb", 0, api.ErrOrder, ed(2, 1, "\x80"))
	expectFault(t, "abcd", 0, api.ErrRange, ed(4, 5, "\x80"))
	expectFault(t, "abcd", 0, api.ErrRange, ed(-1, 0, "\x80"))
	expectFault(t, "aéb", 0, api.ErrRange, ed(2, 2, "\x80"))
	expectFault(t, "abcd", 1, api.ErrOrder, ed(1, 3, ""), ed(2, 5, ""))
	expectFault(t, "abcd", 1, api.ErrOrder, ed(1, 3, ""), ed(-1, 5, ""))
	expectFault(t, "abcd", 1, api.ErrOrder, ed(1, 3, ""), ed(2, 4, "\x80"))
	expectFault(t, "abcd", 1, api.ErrOrder, ed(1, 1, ""), ed(1, 9, "\x80"))
	expectFault(t, "aéb", 1, api.ErrOrder, ed(0, 3, ""), ed(2, 3, ""))
	expectFault(t, "abcd", 0, api.ErrUtf, ed(3, 4, "\x80"), ed(1, 0, ""))
	expectFault(t, "abcd", 0, api.ErrRange, ed(3, 5, ""), ed(0, 0, ""))
	expectFault(t, "abcd", 1, api.ErrUtf, ed(0, 0, ""), ed(1, 1, "\x80"), ed(1, 1, ""))
	expectFault(t, "abcd", 2, api.ErrRange, ed(0, 0, ""), ed(1, 1, ""), ed(2, 5, ""), ed(0, 0, ""))
	expectFault(t, "abcd", 3, api.ErrOrder, ed(0, 0, ""), ed(1, 1, ""), ed(2, 2, ""), ed(4, 3, ""))
}

// P4.1: files that are not UTF-8 have boundaries as well.
func TestCheckFileNotUtf8(t *testing.T) {
	expectValid(t, "\xff\xfe", ed(0, 0, "x"), ed(1, 2, ""))
	expectValid(t, "\xc3", ed(0, 1, "é"))
	expectValid(t, "a\x80", ed(0, 0, "x"), ed(2, 2, "x"))
	expectFault(t, "\x80", 0, api.ErrRange, ed(0, 0, "x"))
	expectFault(t, "\x80", 0, api.ErrRange, ed(0, 1, ""))
	expectFault(t, "a\xbf", 0, api.ErrRange, ed(1, 2, ""))
	expectFault(t, "a\x80\x80b", 0, api.ErrRange, ed(0, 2, ""))
	expectApply(t, "\xff\x80\xc3b", "\xff\x80xyb", ed(2, 3, "xy"))
	expectInvert(t, "\xff\x80\xc3b", list(ed(2, 3, "xy")), ed(2, 4, "\xc3"))
}

// P4.1: all lists of at most two edits with ends in and around small files, against the promise word by word.
func TestCheckEveryPair(t *testing.T) {
	for _, b := range []string{"", "a", "ab", "é", "aé", "éa", "a\x80", "\x80", "\xff"} {
		pairs(small(len(b), "", "é", "\x80"), func(l []api.Edit) {
			for i := range l {
				if want := faulty([]byte(b), l, i); want != 0 {
					expectFault(t, b, i, want, l...)
					return
				}
			}
			expectApply(t, b, string(replaced([]byte(b), l)), l...)
		})
	}
}

// spread is n insertions of text, one before each of the first n bytes of a file.
func spread(n int, text string) []api.Edit {
	var l []api.Edit
	for at := range n {
		l = append(l, ed(at, at, text))
	}
	return l
}

// P4.1: the number of edits comes first, and it is the fault of no edit.
func TestCheckNumber(t *testing.T) {
	b := bytes.Repeat([]byte("a"), 1001)
	l := spread(1000, "b")
	if e := Check(b, l); e != nil {
		t.Errorf("1000 edits: %v", e)
	}
	if r, e := Apply(b, l); e != nil || string(r) != strings.Repeat("ba", 1000)+"a" {
		t.Errorf("1000 edits: %q, %v", r, e)
	}
	if r, e := Invert(b, l); e != nil || len(r) != 1000 || r[999] != ed(1998, 1999, "") {
		t.Errorf("1000 edits: %v, %v", r, e)
	}
	l[999].Text = "\x80"
	expectFault(t, string(b), 999, api.ErrUtf, l...)
	for _, l := range [][]api.Edit{spread(1001, "b"), make([]api.Edit, 1001), spread(1001, "\x80"), spread(5000, "b")} {
		r, applied := Apply(b, l)
		back, inverted := Invert(b, l)
		if e := Check(b, l); e != api.ErrLong || applied != api.ErrLong || inverted != api.ErrLong || len(r) != 0 || len(back) != 0 {
			t.Errorf("%d edits: %v, %v, %v", len(l), e, applied, inverted)
		}
	}
	// The other functions know no greatest number.
	expectGrow(t, 5000, spread(5000, "b")...)
	expectMap(t, spread(5000, "b"), 5000, 10000, true)
	expectBack(t, spread(5000, "b"), 10000, 5000, true)
}

// P4.1: a Text beyond the limit of a file is not UTF-8, as layer 1 sees it.
func TestCheckLongText(t *testing.T) {
	text := strings.Repeat("a", api.MaxFile+1)
	expectValid(t, "b", ed(0, 1, text[1:]))
	for _, x := range []api.Edit{ed(0, 1, text), ed(1, 1, text)} {
		if e := Check([]byte("b"), list(ed(0, 0, ""), x)[x.To-x.From:]); !errors.Is(e, api.ErrUtf) || errors.Is(e, api.ErrLong) {
			t.Errorf("a Text of MaxFile + 1 bytes: %v", e)
		}
	}
}

// P4.2
func TestApply(t *testing.T) {
	expectApply(t, "abcd", "aXYcd", ed(1, 2, "XY"))
	expectApply(t, "abcd", "abcd")
	expectApply(t, "", "")
	expectApply(t, "", "new", ed(0, 0, "new"))
	expectApply(t, "", "", ed(0, 0, ""))
	expectApply(t, "abcd", "xabcd", ed(0, 0, "x"))
	expectApply(t, "abcd", "abxcd", ed(2, 2, "x"))
	expectApply(t, "abcd", "abcdx", ed(4, 4, "x"))
	expectApply(t, "abcd", "bcd", ed(0, 1, ""))
	expectApply(t, "abcd", "abc", ed(3, 4, ""))
	expectApply(t, "abcd", "ad", ed(1, 3, ""))
	expectApply(t, "abcd", "", ed(0, 4, ""))
	expectApply(t, "abcd", "other", ed(0, 4, "other"))
	expectApply(t, "abcd", "abcd", ed(2, 2, ""))
	expectApply(t, "abcd", "abcd", ed(1, 3, "bc"))
	expectApply(t, "abcd", "xyz", ed(0, 1, "x"), ed(1, 2, "y"), ed(2, 4, "z"))
	expectApply(t, "abcd", "xcd", ed(0, 2, ""), ed(2, 2, "x"))
	expectApply(t, "abcd", "xyc", ed(0, 2, "x"), ed(2, 2, "y"), ed(3, 4, ""))
	expectApply(t, "abcd", "1a2d3", ed(0, 0, "1"), ed(1, 3, "2"), ed(4, 4, "3"))
	expectApply(t, "aéb", "€é\U0001f600", ed(0, 1, "€"), ed(3, 4, "\U0001f600"))
}

// P4.2: the limit of the result.
func TestApplyLimit(t *testing.T) {
	b := bytes.Repeat([]byte("a"), api.MaxFile)
	half := string(b[:api.MaxFile/2])
	fits := func(b []byte, l ...api.Edit) {
		t.Helper()
		if r, e := Apply(b, l); e != nil || !bytes.Equal(r, replaced(b, l)) {
			t.Errorf("%d bytes, error %v", len(r), e)
		}
		if r, e := Invert(b, l); e != nil || len(r) != len(l) {
			t.Errorf("%d edits, error %v", len(r), e)
		}
	}
	exceeds := func(b []byte, l ...api.Edit) {
		t.Helper()
		if r, e := Apply(b, l); len(r) != 0 || e != api.ErrLong {
			t.Errorf("Apply: %d bytes, error %v", len(r), e)
		}
		if r, e := Invert(b, l); len(r) != 0 || e != api.ErrLong {
			t.Errorf("Invert: %d edits, error %v", len(r), e)
		}
		if e := Check(b, l); e != nil {
			t.Errorf("Check: %v", e)
		}
	}
	fits(b)
	fits(b, ed(5, 6, "b"))
	fits(b[1:], ed(3, 3, "b"))
	fits(nil, ed(0, 0, string(b)))
	fits(b[:2], ed(0, 1, half), ed(1, 2, half))
	exceeds(b, ed(5, 6, "bc"))
	exceeds(b, ed(api.MaxFile, api.MaxFile, "b"))
	exceeds(b[:1], ed(0, 0, string(b)))
	exceeds(b[:3], ed(0, 1, half), ed(1, 2, half))
	exceeds(b[:3], spread(3, string(b))...)
	// Only the result counts: a longer file may shrink to it.
	long := append(bytes.Clone(b), 'a')
	fits(long, ed(0, 1, ""))
	fits(long, ed(0, 0, "b"), ed(1, api.MaxFile+1, ""))
	exceeds(long)
	exceeds(long, ed(0, 1, "b"))
	// The error of Check comes first.
	if _, e := Apply(long, list(ed(0, 0, ""), ed(2, 1, ""))); e != (api.At{Off: 1, Err: api.ErrOrder}) {
		t.Errorf("too long and out of order: %v", e)
	}
}

// P4.3
func TestGrow(t *testing.T) {
	expectGrow(t, 0)
	expectGrow(t, 0, ed(2, 2, ""))
	expectGrow(t, 0, ed(2, 4, "xy"))
	expectGrow(t, 1, ed(1, 2, "XY"))
	expectGrow(t, 3, ed(0, 0, "new"))
	expectGrow(t, 2, ed(0, 0, "é"))
	expectGrow(t, -4, ed(0, 4, ""))
	expectGrow(t, -2, ed(0, 1, "xy"), ed(3, 6, ""))
	// Any edits.
	expectGrow(t, 2, ed(3, 1, ""))
	expectGrow(t, 3, ed(-1, -3, "x"))
	expectGrow(t, -3, ed(5, 8, "x"), ed(5, 8, "x"), ed(0, -1, ""))
	expectGrow(t, least, ed(0, most, ""), ed(3, 4, ""))
	expectGrow(t, most, ed(0, most, ""), ed(0, 2, ""))
	expectGrow(t, 1, ed(least, most, ""))
	expectGrow(t, -1, ed(most, least, ""))
	expectGrow(t, least, ed(0, least, ""))
	expectGrow(t, least+1, ed(0, least, "x"))
	expectGrow(t, -2, ed(0, most, ""), ed(0, most, ""), ed(1, 1, ""), ed(4, 8, ""))
	expectGrow(t, 0, ed(least, least, ""), ed(most, most, ""))
}

// P4.3: at the ends of what an edit contains.
func TestMap(t *testing.T) {
	l := list(ed(1, 2, "XY"))
	expectMap(t, l, 0, 0, true)
	expectMap(t, l, 1, 1, false)
	expectMap(t, l, 2, 3, true)
	expectMap(t, l, 4, 5, true)
	expectMap(t, nil, 0, 0, true)
	expectMap(t, nil, 7, 7, true)
	// One of each sort: an insertion, a removal, a longer and a shorter Text, no change.
	l = list(ed(2, 2, "new"), ed(4, 8, ""), ed(10, 13, "longer"), ed(13, 16, "x"), ed(20, 20, ""), ed(22, 24, "xy"))
	for _, c := range []struct {
		off, want int
		is        bool
	}{
		{0, 0, true}, {1, 1, true}, {2, 5, true}, {3, 6, true},
		{4, 7, false}, {7, 7, false}, {8, 7, true}, {9, 8, true},
		{10, 9, false}, {12, 9, false}, {13, 15, false}, {15, 15, false}, {16, 16, true},
		{20, 20, true}, {21, 21, true}, {22, 22, false}, {23, 22, false}, {24, 24, true}, {99, 99, true},
	} {
		expectMap(t, l, c.off, c.want, c.is)
	}
}

// P4.3: at the ends of a Text in the result.
func TestBack(t *testing.T) {
	l := list(ed(1, 2, "XY"))
	expectBack(t, l, 0, 0, true)
	expectBack(t, l, 1, 1, false)
	expectBack(t, l, 2, 1, false)
	expectBack(t, l, 3, 2, true)
	expectBack(t, l, 5, 4, true)
	expectBack(t, nil, 0, 0, true)
	expectBack(t, nil, 7, 7, true)
	l = list(ed(2, 2, "new"), ed(4, 8, ""), ed(10, 13, "longer"), ed(13, 16, "x"), ed(20, 20, ""), ed(22, 24, "xy"))
	for _, c := range []struct {
		off, want int
		is        bool
	}{
		{0, 0, true}, {1, 1, true}, {2, 2, false}, {4, 2, false}, {5, 2, true}, {6, 3, true},
		{7, 8, true}, {8, 9, true}, {9, 10, false}, {14, 10, false}, {15, 13, false}, {16, 16, true},
		{19, 19, true}, {20, 20, true}, {21, 21, true}, {22, 22, false}, {23, 22, false}, {24, 24, true}, {99, 99, true},
	} {
		expectBack(t, l, c.off, c.want, c.is)
	}
}

// P4.3: edits that are not valid.
func TestMapAnyEdits(t *testing.T) {
	// They overlap: the first that contains the offset counts, with the growth of those before it in the list.
	l := list(ed(2, 6, "abc"), ed(4, 9, "defg"))
	expectMap(t, l, 3, 2, false)
	expectMap(t, l, 4, 2, false)
	expectMap(t, l, 6, 3, false)
	expectMap(t, l, 9, 7, true)
	expectBack(t, l, 2, 2, false)
	expectBack(t, l, 4, 2, false)
	expectBack(t, l, 5, 4, false)
	expectBack(t, l, 6, 4, false)
	expectBack(t, l, 7, 9, true)
	// Out of order: the second grows nothing below 9, the first nothing below 5.
	l = list(ed(5, 9, ""), ed(0, 1, "xyz"))
	expectMap(t, l, 0, -4, false)
	expectMap(t, l, 1, 3, true)
	expectMap(t, l, 5, 5, false)
	expectMap(t, l, 9, 7, true)
	expectBack(t, l, -5, -5, true)
	expectBack(t, l, -4, 0, false)
	expectBack(t, l, -2, 0, false)
	expectBack(t, l, -1, -3, true)
	expectBack(t, l, 5, 7, true)
	// To is less than From: it contains nothing.
	l = list(ed(6, 2, "x"))
	expectMap(t, l, 1, 1, true)
	expectMap(t, l, 2, 7, true)
	expectMap(t, l, 6, 11, true)
	expectBack(t, l, 5, 5, true)
	expectBack(t, l, 6, 6, false)
	expectBack(t, l, 7, 2, true)
	// Two at one place.
	l = list(ed(3, 3, "a"), ed(3, 3, "b"))
	expectMap(t, l, 3, 5, true)
	expectBack(t, l, 4, 3, false)
	expectBack(t, l, 5, 3, true)
	// Offsets and edits below 0.
	l = list(ed(-5, -3, "x"))
	expectMap(t, l, -6, -6, true)
	expectMap(t, l, -5, -5, false)
	expectMap(t, l, -4, -5, false)
	expectMap(t, l, -3, -4, true)
	expectBack(t, l, -5, -5, false)
	expectBack(t, l, -4, -3, true)
	expectMap(t, list(ed(0, 1, "xy")), -1, -1, true)
	expectBack(t, list(ed(0, 1, "xy")), -1, -1, true)
}

// P4.3: sums that wrap around.
func TestMapLargest(t *testing.T) {
	expectMap(t, nil, least, least, true)
	expectMap(t, nil, most, most, true)
	expectBack(t, nil, least, least, true)
	expectBack(t, nil, most, most, true)
	expectMap(t, list(ed(0, 0, "x")), most, least, true)
	expectMap(t, list(ed(0, 0, "x")), least, least, true)
	expectBack(t, list(ed(0, 1, "")), most, least, true)
	expectMap(t, list(ed(least, most, "")), 0, least, false)
	expectMap(t, list(ed(least, most, "")), least, least, false)
	expectMap(t, list(ed(least, most, "")), most, least, true)
	expectMap(t, list(ed(most, least, "")), 0, -1, true)
	expectMap(t, list(ed(most, least, "")), least, most, true)
	expectMap(t, list(ed(0, 0, "x"), ed(most-1, most, "")), most-1, most, false)
	expectMap(t, list(ed(0, 0, "xy"), ed(most-1, most, "")), most-1, least, false)
	// The start wraps around, and so does the end of the Text: then no offset lies within it.
	expectBack(t, list(ed(0, 0, "xy"), ed(most, most, "z")), least+1, most, false)
	expectBack(t, list(ed(most, most, "x")), most, most-1, true)
	expectBack(t, list(ed(most-1, most-1, "x")), most-1, most-1, false)
	expectBack(t, list(ed(most-1, most-1, "x")), most, most-1, true)
	expectBack(t, list(ed(most, most, "x")), least, most, true)
}

// P4.3: all lists of at most three edits with ends between -1 and 2, and of at most two with the largest ends, against the promise word by word.
func TestMapEveryList(t *testing.T) {
	expectWords := func(l []api.Edit, offs ...int) {
		expectGrow(t, grown(l), l...)
		for _, off := range offs {
			to, is := mapped(l, off)
			expectMap(t, l, off, to, is)
			to, is = backed(l, off)
			expectBack(t, l, off, to, is)
		}
	}
	triples(small(1, "", "xy"), func(l []api.Edit) { expectWords(l, -2, 0, 1, 3) })
	ends := []int{least, least + 1, -1, 0, 1, most - 1, most}
	var large []api.Edit
	for _, from := range ends {
		for _, to := range ends {
			large = append(large, ed(from, to, ""), ed(from, to, "xy"))
		}
	}
	pairs(large, func(l []api.Edit) { expectWords(l, ends...) })
}

// P4.4
func TestInvert(t *testing.T) {
	expectInvert(t, "abcd", nil)
	expectInvert(t, "", list(ed(0, 0, "new")), ed(0, 3, ""))
	expectInvert(t, "abcd", list(ed(1, 2, "XY")), ed(1, 3, "b"))
	expectInvert(t, "abcd", list(ed(0, 4, "")), ed(0, 0, "abcd"))
	expectInvert(t, "abcd", list(ed(2, 2, "")), ed(2, 2, ""))
	expectInvert(t, "abcd", list(ed(0, 0, "1"), ed(1, 3, "2"), ed(4, 4, "é")), ed(0, 1, ""), ed(2, 3, "bc"), ed(4, 6, ""))
	expectInvert(t, "abcd", list(ed(0, 1, "xyz"), ed(1, 2, ""), ed(3, 3, "x")), ed(0, 3, "a"), ed(3, 3, "b"), ed(4, 5, ""))
	// One for each edit, in their order, though what touches a removal begins where the removal's inverse does.
	expectInvert(t, "abcd", list(ed(0, 1, ""), ed(1, 2, "")), ed(0, 0, "a"), ed(0, 0, "b"))
	expectInvert(t, "abcd", list(ed(0, 2, ""), ed(2, 2, "x")), ed(0, 0, "ab"), ed(0, 1, ""))
}

// valid calls f with each valid list of at most three edits of each of some small files, and with the result of Apply.
func valid(t *testing.T, f func(b []byte, l []api.Edit, result []byte)) {
	t.Helper()
	for _, file := range []string{"", "a", "ab", "abc", "é", "aéb"} {
		b := []byte(file)
		sound := slices.DeleteFunc(small(len(b), "", "x", "yé"), func(x api.Edit) bool { return faulty(b, list(x), 0) != 0 })
		all := func(l []api.Edit) {
			for i := range l {
				if faulty(b, l, i) != 0 {
					return
				}
			}
			result, e := Apply(b, l)
			if e != nil {
				t.Errorf("Apply(%q, %v): %v", b, l, e)
			}
			f(b, l, result)
		}
		pairs(sound, all)
		triples(sound, all)
	}
}

// P4.2, P4.4: the result, and the way back from it.
func TestInvertEveryList(t *testing.T) {
	valid(t, func(b []byte, l []api.Edit, result []byte) {
		if want := replaced(b, l); !bytes.Equal(result, want) {
			t.Errorf("Apply(%q, %v) = %q; want %q", b, l, result, want)
		}
		inverse, e := Invert(b, l)
		if e != nil || len(inverse) != len(l) {
			t.Fatalf("Invert(%q, %v) = %v, %v", b, l, inverse, e)
		}
		touch := false
		for i, x := range inverse {
			if string(result[x.From:x.To]) != l[i].Text || x.Text != string(b[l[i].From:l[i].To]) {
				t.Errorf("Invert(%q, %v) = %v", b, l, inverse)
			}
			touch = touch || i > 0 && x.From == inverse[i-1].From
		}
		if back := replaced(result, inverse); !bytes.Equal(back, b) {
			t.Errorf("%q, %v: the inverse %v gives %q", b, l, inverse, back)
		}
		if back, e := Apply(result, inverse); !touch && (e != nil || !bytes.Equal(back, b)) {
			t.Errorf("%q, %v: Apply of the inverse %v: %q, %v", b, l, inverse, back, e)
		}
	})
}

// P4.5: for each byte of the file and of the result.
func TestMapAndBackInverse(t *testing.T) {
	valid(t, func(b []byte, l []api.Edit, result []byte) {
		from := origins(len(b), l)
		for off := range b {
			to := slices.Index(from, off)
			at, is := Map(l, off)
			if is != (to >= 0) || is && (at != to || result[at] != b[off]) {
				t.Errorf("%q, %v: Map(%d) = %d, %v; want %d", b, l, off, at, is, to)
			}
		}
		for at, off := range from {
			back, is := Back(l, at)
			if is != (off >= 0) || is && back != off {
				t.Errorf("%q, %v: Back(%d) = %d, %v; want %d", b, l, at, back, is, off)
			}
		}
		// The ends go together too.
		expectMap(t, l, len(b), len(result), true)
		expectBack(t, l, len(result), len(b), true)
	})
}

// Rule 4: no argument is changed, and no result shares memory with one.
func TestArgumentsStay(t *testing.T) {
	b, l := []byte("abcd"), list(ed(0, 0, "x"), ed(1, 3, "yz"))
	for _, l := range [][]api.Edit{nil, l} {
		was := slices.Clone(l)
		r, _ := Apply(b, l)
		inverse, _ := Invert(b, l)
		Check(b, l)
		Map(l, 2)
		Back(l, 2)
		Grow(l)
		clear(r)
		for i := range inverse {
			inverse[i] = ed(7, 7, "")
		}
		if string(b) != "abcd" || !slices.Equal(l, was) {
			t.Errorf("%q, %v", b, l)
		}
	}
	// Nor is room behind an argument written to.
	room := append(make([]byte, 0, 9), "abcd"...)
	Apply(room[:2], list(ed(2, 2, "XY")))
	if string(room) != "abcd" {
		t.Errorf("%q", room)
	}
	inverse, _ := Invert(b, l)
	clear(b)
	if inverse[1].Text != "bc" {
		t.Errorf("the inverse changes with the file: %v", inverse)
	}
}
