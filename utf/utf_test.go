package utf

import (
	"bytes"
	"errors"
	"math"
	"testing"
	"unicode/utf8"

	"cavil/api"
)

// edge is a rune at an end of a range of the definition, with its encoding as the definition spells it.
type edge struct {
	r rune
	b []byte
}

func edges() []edge {
	return []edge{
		{0, []byte{0}},
		{'a', []byte{0x61}},
		{0x7f, []byte{0x7f}},
		{0x80, []byte{0xc2, 0x80}},
		{0xe9, []byte{0xc3, 0xa9}},
		{0x7ff, []byte{0xdf, 0xbf}},
		{0x800, []byte{0xe0, 0xa0, 0x80}},
		{0x20ac, []byte{0xe2, 0x82, 0xac}},
		{0xd7ff, []byte{0xed, 0x9f, 0xbf}},
		{0xe000, []byte{0xee, 0x80, 0x80}},
		{0xfeff, []byte{0xef, 0xbb, 0xbf}},
		{0xfffd, []byte{0xef, 0xbf, 0xbd}},
		{0xffff, []byte{0xef, 0xbf, 0xbf}},
		{0x10000, []byte{0xf0, 0x90, 0x80, 0x80}},
		{0x1f600, []byte{0xf0, 0x9f, 0x98, 0x80}},
		{0x10ffff, []byte{0xf4, 0x8f, 0xbf, 0xbf}},
	}
}

// wrong is sequences of which no encoding is a beginning, nor a continuation of a shorter one.
func wrong() [][]byte {
	return [][]byte{
		{0x80}, {0xbf}, {0x80, 0x80}, // later bytes alone
		{0xc0, 0x80}, {0xc0, 0xaf}, {0xc1, 0xbf}, // too long: one byte is enough
		{0xe0, 0x80, 0x80}, {0xe0, 0x81, 0xbf}, {0xe0, 0x9f, 0xbf}, // two bytes are enough
		{0xf0, 0x80, 0x80, 0x80}, {0xf0, 0x8f, 0xbf, 0xbf}, // three bytes are enough
		{0xed, 0xa0, 0x80}, {0xed, 0xaf, 0xbf}, {0xed, 0xb0, 0x80}, {0xed, 0xbf, 0xbf}, // surrogates
		{0xf4, 0x90, 0x80, 0x80}, {0xf5, 0x80, 0x80, 0x80}, {0xf7, 0xbf, 0xbf, 0xbf}, // greater than the last rune
		{0xf8, 0x88, 0x80, 0x80, 0x80}, {0xfc, 0x84, 0x80, 0x80, 0x80, 0x80}, {0xfe}, {0xff}, // no first byte
		{0xc3}, {0xe2}, {0xe2, 0x82}, {0xf0}, {0xf0, 0x9f}, {0xf0, 0x9f, 0x98}, // cut off
		{0xc3, 0x41}, {0xc3, 0xc3}, {0xe2, 0x41, 0x80}, {0xe2, 0x82, 0x41}, {0xe2, 0x82, 0xc3}, // interrupted
		{0xf0, 0x41, 0x98, 0x80}, {0xf0, 0x9f, 0x41, 0x80}, {0xf0, 0x9f, 0x98, 0x41}, {0xf0, 0x9f, 0x98, 0xff},
	}
}

// sequence is the runes of edges one after the other, and the offsets at which they begin.
func sequence() (b []byte, starts []int) {
	for _, x := range edges() {
		starts = append(starts, len(b))
		b = append(b, x.b...)
	}
	return b, starts
}

func expectNone(t *testing.T, b []byte, at int, want error) {
	t.Helper()
	r, n, e := Decode(b, at)
	if r != 0 || n != 0 || !errors.Is(e, want) {
		t.Errorf("Decode(% x, %d) = %x, %d, %v; want %v", b, at, r, n, e, want)
	}
}

func expectRune(t *testing.T, b []byte, at int, want rune, size int) {
	t.Helper()
	r, n, e := Decode(b, at)
	if r != want || n != size || e != nil {
		t.Errorf("Decode(% x, %d) = %x, %d, %v; want %x, %d", b, at, r, n, e, want, size)
	}
}

// P1.1
func TestDecodeOrdinary(t *testing.T) {
	for _, x := range edges() {
		expectRune(t, x.b, 0, x.r, len(x.b))
		expectRune(t, append(bytes.Clone(x.b), 0x80), 0, x.r, len(x.b))
		expectRune(t, append([]byte{0xff}, x.b...), 1, x.r, len(x.b))
	}
	b, starts := sequence()
	for i, x := range edges() {
		expectRune(t, b, starts[i], x.r, len(x.b))
	}
}

// P1.1
func TestDecodeRange(t *testing.T) {
	b, _ := sequence()
	for _, at := range []int{-1, -2, -len(b), math.MinInt, len(b), len(b) + 1, math.MaxInt} {
		expectNone(t, b, at, api.ErrRange)
	}
	for _, at := range []int{-1, 0, 1, math.MinInt, math.MaxInt} {
		expectNone(t, nil, at, api.ErrRange)
		expectNone(t, []byte{}, at, api.ErrRange)
	}
}

// P1.1: what lies beyond the end of b, in its memory, is no part of b.
func TestDecodeKeepsToTheLength(t *testing.T) {
	for _, x := range edges() {
		for n := 1; n < len(x.b); n++ {
			expectNone(t, bytes.Clone(x.b)[:n], 0, api.ErrUtf)
		}
	}
}

// P1.1
func TestDecodeWrong(t *testing.T) {
	for _, b := range wrong() {
		expectNone(t, b, 0, api.ErrUtf)
		expectNone(t, append([]byte{'a'}, b...), 1, api.ErrUtf)
		expectNone(t, append(bytes.Clone(b), 'a'), 0, api.ErrUtf)
	}
}

// P1.1: within an encoding none begins.
func TestDecodeInside(t *testing.T) {
	for _, x := range edges() {
		for at := 1; at < len(x.b); at++ {
			expectNone(t, x.b, at, api.ErrUtf)
		}
	}
}

// compare holds Decode against the library, whose RuneError of size 1 tells that nothing begins.
func compare(t *testing.T, b []byte) {
	want, size := utf8.DecodeRune(b)
	var none error
	if want == utf8.RuneError && size == 1 {
		want, size, none = 0, 0, api.ErrUtf
	}
	if r, n, e := Decode(b, 0); r != want || n != size || e != none {
		t.Errorf("Decode(% x) = %x, %d, %v; want %x, %d, %v", b, r, n, e, want, size, none)
	}
}

// P1.1: all first bytes, with all second ones, and later ones about each bound.
func TestDecodeAgainstLibrary(t *testing.T) {
	later := []byte{0x00, 0x41, 0x7f, 0x80, 0x81, 0x9f, 0xa0, 0xbe, 0xbf, 0xc0, 0xc2, 0xff}
	for c := range 256 {
		compare(t, []byte{byte(c)})
		for d := range 256 {
			compare(t, []byte{byte(c), byte(d)})
			for _, f := range later {
				compare(t, []byte{byte(c), byte(d), f})
				for _, g := range later {
					compare(t, []byte{byte(c), byte(d), f, g})
				}
			}
		}
		if t.Failed() {
			return
		}
	}
}

// P1.2
func TestEncodeOrdinary(t *testing.T) {
	for _, x := range edges() {
		if b, e := Encode(x.r); !bytes.Equal(b, x.b) || e != nil {
			t.Errorf("Encode(%x) = % x, %v; want % x", x.r, b, e, x.b)
		}
	}
}

// P1.2
func TestEncodeNotRune(t *testing.T) {
	l := []rune{-1, -2, -0x80, math.MinInt32, 0x110000, 0x110001, 0x1fffff, 0x200000, math.MaxInt32}
	for r := rune(0xd800); r <= 0xdfff; r++ {
		l = append(l, r)
	}
	for _, r := range l {
		if b, e := Encode(r); len(b) != 0 || !errors.Is(e, api.ErrRange) {
			t.Errorf("Encode(%x) = % x, %v; want ErrRange", r, b, e)
		}
	}
}

// P1.2, with rule 4: a result shares no memory with another.
func TestEncodeNewMemory(t *testing.T) {
	for _, x := range edges() {
		b, _ := Encode(x.r)
		clear(b)
		if c, e := Encode(x.r); !bytes.Equal(c, x.b) || e != nil {
			t.Errorf("Encode(%x) = % x, %v after an earlier result was changed", x.r, c, e)
		}
	}
}

func expectAt(t *testing.T, b []byte, off int) {
	t.Helper()
	var a api.At
	e := Check(b)
	if !errors.As(e, &a) || a.Off != off || a.Err != error(api.ErrUtf) {
		t.Errorf("Check: %#v; want ErrUtf at %d", e, off)
	}
	n, f := Count(b)
	if n != 0 || !errors.As(f, &a) || a.Off != off || a.Err != error(api.ErrUtf) {
		t.Errorf("Count: %d, %#v; want ErrUtf at %d", n, f, off)
	}
}

func expectCount(t *testing.T, b []byte, want int) {
	t.Helper()
	if e := Check(b); e != nil {
		t.Errorf("Check: %#v", e)
	}
	if n, e := Count(b); n != want || e != nil {
		t.Errorf("Count: %d, %#v; want %d", n, e, want)
	}
}

// P1.3
func TestCheckOrdinary(t *testing.T) {
	expectCount(t, nil, 0)
	expectCount(t, []byte{}, 0)
	expectCount(t, []byte("package p\n"), 10)
	for _, x := range edges() {
		expectCount(t, x.b, 1)
		expectCount(t, bytes.Repeat(x.b, 7), 7)
	}
	b, starts := sequence()
	expectCount(t, b, len(starts))
}

// P1.3: the error is at the first offset of those at which no encoding begins, even if more follow.
func TestCheckWrong(t *testing.T) {
	expectAt(t, []byte{0x61, 0xc3}, 1)
	head, _ := sequence()
	for _, b := range wrong() {
		expectAt(t, b, 0)
		expectAt(t, append(bytes.Clone(head), b...), len(head))
		all := append(bytes.Clone(head), b...)
		all = append(all, head...)
		expectAt(t, append(all, 0xff), len(head))
	}
}

// P1.3: an encoding that is cut off is at its first byte, not where its next one lacks.
func TestCheckCutOff(t *testing.T) {
	for _, x := range edges() {
		for n := 1; n < len(x.b); n++ {
			expectAt(t, append([]byte("xyz"), x.b[:n]...), 3)
			expectAt(t, append(append([]byte("xyz"), x.b[:n]...), 'a'), 3)
		}
	}
}

// P1.3
func TestCheckLimit(t *testing.T) {
	b := bytes.Repeat([]byte{'a'}, api.MaxFile+1)
	expectCount(t, b[:api.MaxFile], api.MaxFile)
	for _, last := range []byte{'a', 0xff} {
		b[api.MaxFile], b[0] = last, last
		if e := Check(b); e != error(api.ErrLong) {
			t.Errorf("Check of MaxFile+1 bytes: %#v", e)
		}
		if n, e := Count(b); n != 0 || e != error(api.ErrLong) {
			t.Errorf("Count of MaxFile+1 bytes: %d, %#v", n, e)
		}
	}
	b[0], b[api.MaxFile-1] = 'a', 0xc3
	expectAt(t, b[:api.MaxFile], api.MaxFile-1)
}

// P1.3: the limit is one of bytes, not of runes.
func TestCheckLimitInBytes(t *testing.T) {
	b := bytes.Repeat([]byte{0xf0, 0x9f, 0x98, 0x80}, api.MaxFile/4)
	expectCount(t, b, api.MaxFile/4)
	if e := Check(append(b, 'a')); e != error(api.ErrLong) {
		t.Errorf("Check of MaxFile+1 bytes: %#v", e)
	}
}

// P1.4
func TestBoundary(t *testing.T) {
	for c := range 256 {
		want := c < 0x80 || c > 0xbf
		if Boundary([]byte{byte(c)}, 0) != want || Boundary([]byte{'a', byte(c), 'b'}, 1) != want {
			t.Errorf("Boundary at the byte %x: want %v", c, want)
		}
	}
}

// P1.4: the bytes need not be UTF-8.
func TestBoundaryEnds(t *testing.T) {
	for _, b := range [][]byte{nil, {}, {'a'}, {0x80}, {0xff, 0x80}, []byte("a\u20ac")} {
		for _, at := range []int{-1, -2, -len(b) - 1, math.MinInt, len(b) + 1, len(b) + 2, math.MaxInt} {
			if Boundary(b, at) {
				t.Errorf("Boundary(% x, %d)", b, at)
			}
		}
		if !Boundary(b, len(b)) {
			t.Errorf("not Boundary(% x, %d)", b, len(b))
		}
	}
	if Boundary([]byte{'a', 'b', 0x80}[:1], 2) {
		t.Error("Boundary beyond the length, within the memory")
	}
}

// P1.5: all runes.
func TestDecodeInvertsEncode(t *testing.T) {
	for r := rune(0); r <= 0x10ffff; r++ {
		if r >= 0xd800 && r <= 0xdfff {
			continue
		}
		b, e := Encode(r)
		if e != nil || !bytes.Equal(b, utf8.AppendRune(nil, r)) {
			t.Fatalf("Encode(%x) = % x, %v", r, b, e)
		}
		s, n, e := Decode(b, 0)
		if s != r || n != len(b) || e != nil {
			t.Fatalf("Decode(% x) = %x, %d, %v; want %x", b, s, n, e, r)
		}
	}
}

// P1.5: each encoding extends from one boundary to the next, so that the boundaries are just where they begin.
func TestBoundariesOfSequence(t *testing.T) {
	b, starts := sequence()
	var found []int
	for at := range b {
		if Boundary(b, at) {
			found = append(found, at)
		}
	}
	if len(found) != len(starts) {
		t.Fatalf("boundaries %v; want %v", found, starts)
	}
	for i, at := range append(starts[1:], len(b)) {
		_, n, e := Decode(b, found[i])
		if found[i]+n != at || e != nil {
			t.Errorf("the encoding at %d ends at %d, %v; want %d", found[i], found[i]+n, e, at)
		}
	}
}

// Rule 4: arguments are not modified.
func TestArgumentsStay(t *testing.T) {
	b, _ := sequence()
	for _, w := range wrong() {
		b = append(b, w...)
	}
	kept := bytes.Clone(b)
	for at := -1; at <= len(b)+1; at++ {
		Decode(b, at)
		Boundary(b, at)
	}
	Check(b)
	Count(b)
	if !bytes.Equal(b, kept) {
		t.Error("an argument was modified")
	}
}
