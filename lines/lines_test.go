package lines

import (
	"bytes"
	"errors"
	"math"
	"slices"
	"testing"

	"cavil/api"
)

// texts is all texts of up to size bytes that are made of the letter a and of 0a, so that every order of lines of these sizes is among them.
func texts(size int) [][]byte {
	all := [][]byte{{}}
	for at := 0; at < len(all) && len(all[at]) < size; at++ {
		all = append(all, append(bytes.Clone(all[at]), 'a'), append(bytes.Clone(all[at]), '\n'))
	}
	return all
}

// place is an offset's line and column, as they are counted byte by byte.
type place struct{ line, col int }

// places is the place of each offset of b, with the one behind its last byte.
func places(b []byte) []place {
	at := place{1, 1}
	l := []place{at}
	for _, c := range b {
		at.col++
		if c == '\n' {
			at = place{at.line + 1, 1}
		}
		l = append(l, at)
	}
	return l
}

// outside is numbers that are neither lines nor columns of a small text, nor offsets in it.
func outside() []int {
	return []int{math.MinInt, math.MinInt + 1, math.MinInt32, -2, -1, math.MaxInt32, math.MaxInt - 1, math.MaxInt}
}

func expectPos(t *testing.T, x Table, off, line, col int) {
	t.Helper()
	if l, c, e := Pos(x, off); l != line || c != col || e != nil {
		t.Errorf("Pos(%v, %d) = %d, %d, %v; want %d, %d", x, off, l, c, e, line, col)
	}
}

func expectNoPos(t *testing.T, x Table, off int, want error) {
	t.Helper()
	if l, c, e := Pos(x, off); l != 0 || c != 0 || !errors.Is(e, want) {
		t.Errorf("Pos(%v, %d) = %d, %d, %v; want %v", x, off, l, c, e, want)
	}
}

func expectOffset(t *testing.T, x Table, line, col, off int) {
	t.Helper()
	if o, e := Offset(x, line, col); o != off || e != nil {
		t.Errorf("Offset(%v, %d, %d) = %d, %v; want %d", x, line, col, o, e, off)
	}
}

func expectNoOffset(t *testing.T, x Table, line, col int, want error) {
	t.Helper()
	if o, e := Offset(x, line, col); o != 0 || !errors.Is(e, want) {
		t.Errorf("Offset(%v, %d, %d) = %d, %v; want %v", x, line, col, o, e, want)
	}
}

func expectLine(t *testing.T, x Table, line, from, to int) {
	t.Helper()
	if s, e := Line(x, line); s != (api.Span{From: from, To: to}) || e != nil {
		t.Errorf("Line(%v, %d) = %v, %v; want %d to %d", x, line, s, e, from, to)
	}
}

func expectNoLine(t *testing.T, x Table, line int, want error) {
	t.Helper()
	if s, e := Line(x, line); s != (api.Span{}) || !errors.Is(e, want) {
		t.Errorf("Line(%v, %d) = %v, %v; want %v", x, line, s, e, want)
	}
}

// P2.1
func TestNew(t *testing.T) {
	for _, c := range []struct {
		text   string
		starts []int
	}{
		{"", []int{0}},
		{"a", []int{0}},
		{"abc", []int{0}},
		{"\n", []int{0, 1}},
		{"a\n", []int{0, 2}},
		{"a\nb", []int{0, 2}},
		{"\n\n\n", []int{0, 1, 2, 3}},
		{"a\n\n\nb", []int{0, 2, 3, 4}},
		{"a\n\n\nb\n", []int{0, 2, 3, 4, 6}},
		{"package p\n\nvar x int\n", []int{0, 10, 11, 21}},
		// Nothing but 0a ends a line.
		{"\r", []int{0}},
		{"a\r\nb\rc", []int{0, 3}},
		{"\v\f\x00\u0085\u2028\u2029", []int{0}},
		// Columns and offsets count bytes, of any value.
		{"\xc3\xa9\n\xff\xfe\n\x80", []int{0, 3, 6}},
		{"\u0a0a\n", []int{0, 4}},
	} {
		x := New([]byte(c.text))
		if !slices.Equal(x.Starts, c.starts) || x.Size != len(c.text) {
			t.Errorf("New(%q) = %v; want %v, %d", c.text, x, c.starts, len(c.text))
		}
	}
	if x := New(nil); !slices.Equal(x.Starts, []int{0}) || x.Size != 0 {
		t.Errorf("New(nil) = %v", x)
	}
}

// P2.1: a byte is an end of a line if it is 0a, whichever of the others it could be.
func TestNewEveryByte(t *testing.T) {
	for c := range 256 {
		want := []int{0}
		if c == 0x0a {
			want = []int{0, 2}
		}
		if x := New([]byte{'a', byte(c), 'a'}); !slices.Equal(x.Starts, want) || x.Size != 3 {
			t.Errorf("New with the byte %x = %v; want %v", c, x, want)
		}
	}
}

// P2.1: what lies beyond the end of b, in its memory, is no part of b.
func TestNewKeepsToTheLength(t *testing.T) {
	if x := New([]byte("a\nb\nc\n")[:3]); !slices.Equal(x.Starts, []int{0, 2}) || x.Size != 3 {
		t.Errorf("New = %v", x)
	}
}

// P2.1, at a file's limit and one beyond it: lines know no limit.
func TestNewLargest(t *testing.T) {
	for _, size := range []int{api.MaxFile, api.MaxFile + 1} {
		x := New(bytes.Repeat([]byte{'\n'}, size))
		if len(x.Starts) != size+1 || x.Size != size {
			t.Fatalf("New of %d lines: %d, %d", size, len(x.Starts), x.Size)
		}
		for i, start := range x.Starts {
			if start != i {
				t.Fatalf("line %d begins at %d", i+1, start)
			}
		}
		expectPos(t, x, size, size+1, 1)
		expectPos(t, x, size-1, size, 1)
		expectOffset(t, x, size+1, 1, size)
		expectNoOffset(t, x, size+1, 2, api.ErrRange)
	}
}

// P2.1, with rule 4: a table shares no memory with the text, nor with another table.
func TestNewMemory(t *testing.T) {
	b := []byte("a\nb\n")
	x, y := New(b), New(b)
	if string(b) != "a\nb\n" {
		t.Errorf("New changed its text to %q", b)
	}
	clear(b)
	clear(x.Starts)
	if !slices.Equal(y.Starts, []int{0, 2, 4}) {
		t.Errorf("a table changed to %v", y)
	}
}

// P2.1, P2.2, P2.3, P2.4: over all small texts, against the places counted byte by byte.
func TestEveryPlace(t *testing.T) {
	for _, b := range texts(9) {
		x := New(b)
		for off, p := range places(b) {
			expectPos(t, x, off, p.line, p.col)
			expectOffset(t, x, p.line, p.col, off)
		}
		if t.Failed() {
			return
		}
	}
}

// P2.2, P2.3, P2.4: Offset has an answer for a line and a column exactly if they are an offset's, and Pos leads back from it.
func TestNoOtherPlace(t *testing.T) {
	for _, b := range texts(7) {
		x := New(b)
		l := places(b)
		for line := -1; line <= len(b)+3; line++ {
			for col := -1; col <= len(b)+3; col++ {
				if off := slices.Index(l, place{line, col}); off < 0 {
					expectNoOffset(t, x, line, col, api.ErrRange)
				} else {
					expectOffset(t, x, line, col, off)
					expectPos(t, x, off, line, col)
				}
			}
		}
		if t.Failed() {
			return
		}
	}
}

// P2.3: the lines follow each other without a gap, each with the one 0a that ends it.
func TestEveryLine(t *testing.T) {
	for _, b := range texts(9) {
		x := New(b)
		parts := bytes.SplitAfter(b, []byte{'\n'})
		from := 0
		for i, part := range parts {
			expectLine(t, x, i+1, from, from+len(part))
			from += len(part)
		}
		expectNoLine(t, x, 0, api.ErrRange)
		expectNoLine(t, x, len(parts)+1, api.ErrRange)
		if t.Failed() {
			return
		}
	}
}

// P2.2: the example, and the offset Size with those next to it.
func TestPosEdges(t *testing.T) {
	expectPos(t, New([]byte("a\nb")), 2, 2, 1)

	open := New([]byte("ab\n\ncd"))
	expectPos(t, open, 0, 1, 1)
	expectPos(t, open, 2, 1, 3)
	expectPos(t, open, 3, 2, 1)
	expectPos(t, open, 4, 3, 1)
	expectPos(t, open, 5, 3, 2)
	expectPos(t, open, 6, 3, 3)
	expectNoPos(t, open, 7, api.ErrRange)

	closed := New([]byte("ab\ncd\n"))
	expectPos(t, closed, 5, 2, 3)
	expectPos(t, closed, 6, 3, 1)
	expectNoPos(t, closed, 7, api.ErrRange)

	empty := New(nil)
	expectPos(t, empty, 0, 1, 1)
	expectNoPos(t, empty, 1, api.ErrRange)
}

// P2.2
func TestPosRange(t *testing.T) {
	for _, text := range []string{"", "a", "\n", "a\nb", "a\nb\n"} {
		x := New([]byte(text))
		for _, off := range append(outside(), len(text)+1, len(text)+2) {
			expectNoPos(t, x, off, api.ErrRange)
		}
	}
}

// P2.3: columns just before a line's end and behind it; Size has a column in the last line alone.
func TestOffsetEdges(t *testing.T) {
	open := New([]byte("ab\n\ncd"))
	expectOffset(t, open, 1, 3, 2)
	expectNoOffset(t, open, 1, 4, api.ErrRange)
	expectOffset(t, open, 2, 1, 3)
	expectNoOffset(t, open, 2, 2, api.ErrRange)
	expectOffset(t, open, 3, 2, 5)
	expectOffset(t, open, 3, 3, 6)
	expectNoOffset(t, open, 3, 4, api.ErrRange)
	expectNoOffset(t, open, 4, 1, api.ErrRange)
	expectNoOffset(t, open, 0, 1, api.ErrRange)
	expectNoOffset(t, open, 1, 0, api.ErrRange)

	closed := New([]byte("ab\ncd\n"))
	expectOffset(t, closed, 2, 3, 5)
	expectNoOffset(t, closed, 2, 4, api.ErrRange)
	expectOffset(t, closed, 3, 1, 6)
	expectNoOffset(t, closed, 3, 2, api.ErrRange)

	empty := New(nil)
	expectOffset(t, empty, 1, 1, 0)
	expectNoOffset(t, empty, 1, 2, api.ErrRange)
	expectNoOffset(t, empty, 2, 1, api.ErrRange)
}

// P2.3
func TestOffsetRange(t *testing.T) {
	for _, text := range []string{"", "a", "\n", "a\nb", "a\nb\n"} {
		x := New([]byte(text))
		for _, n := range append(outside(), 0) {
			for line := 1; line <= len(x.Starts); line++ {
				expectNoOffset(t, x, line, n, api.ErrRange)
			}
			expectNoOffset(t, x, n, 1, api.ErrRange)
			expectNoOffset(t, x, n, n, api.ErrRange)
		}
	}
}

// P2.3
func TestLineEdges(t *testing.T) {
	open := New([]byte("ab\n\ncd"))
	expectLine(t, open, 1, 0, 3)
	expectLine(t, open, 2, 3, 4)
	expectLine(t, open, 3, 4, 6)
	expectLine(t, New([]byte("a\n")), 2, 2, 2)
	expectLine(t, New(nil), 1, 0, 0)
	for _, x := range []Table{open, New(nil), New([]byte("a\n"))} {
		for _, line := range append(outside(), 0, len(x.Starts)+1) {
			expectNoLine(t, x, line, api.ErrRange)
		}
	}
}

// invalid is tables each of which breaks one rule only.
func invalid() []Table {
	return []Table{
		{},
		{Starts: []int{}, Size: 5},
		{Starts: []int{}, Size: -1},
		{Starts: []int{1}, Size: 5},
		{Starts: []int{-1}, Size: 5},
		{Starts: []int{-1, 0, 2}, Size: 5},
		{Starts: []int{1, 2, 3}, Size: 5},
		{Starts: []int{math.MinInt}, Size: 5},
		{Starts: []int{0, 0}, Size: 5},
		{Starts: []int{0, 0, 2}, Size: 5},
		{Starts: []int{0, 3, 3}, Size: 5},
		{Starts: []int{0, 3, 3, 4}, Size: 5},
		{Starts: []int{0, 3, 2}, Size: 5},
		{Starts: []int{0, 3, 2, 4}, Size: 5},
		{Starts: []int{0, 9, 4}, Size: 5},
		{Starts: []int{0, -1}, Size: 5},
		{Starts: []int{0, math.MinInt, 1}, Size: 5},
		{Starts: []int{0, math.MaxInt, math.MinInt}, Size: 5},
		{Starts: []int{0, 6}, Size: 5},
		{Starts: []int{0, 2, 6}, Size: 5},
		{Starts: []int{0, math.MaxInt}, Size: math.MaxInt - 1},
		{Starts: []int{0, 1}, Size: 0},
		{Starts: []int{0}, Size: -1},
		{Starts: []int{0}, Size: math.MinInt},
		{Starts: []int{0, 2}, Size: -3},
	}
}

// P2.2, P2.3: an invalid table comes ahead of whatever is asked of it.
func TestInvalid(t *testing.T) {
	for _, x := range invalid() {
		for _, n := range append(outside(), 0, 1, 2, 3, 4, 5, 6) {
			expectNoPos(t, x, n, api.ErrForm)
			expectNoLine(t, x, n, api.ErrForm)
			for _, col := range append(outside(), 0, 1, 2) {
				expectNoOffset(t, x, n, col, api.ErrForm)
			}
		}
	}
}

// P2.2, P2.3: one wrong start among many is found wherever it stands.
func TestInvalidAnywhere(t *testing.T) {
	for wrong := 1; wrong < 40; wrong++ {
		x := New(bytes.Repeat([]byte{'\n'}, 40))
		x.Starts[wrong] = wrong - 1
		expectNoPos(t, x, 0, api.ErrForm)
		expectNoPos(t, x, 40, api.ErrForm)
		expectNoLine(t, x, 1, api.ErrForm)
		expectNoOffset(t, x, 41, 1, api.ErrForm)
	}
}

// P2.2, P2.3: a table that New did not make is as good, if it is valid.
func TestValid(t *testing.T) {
	x := Table{Starts: []int{0, 3, 10}, Size: 10}
	expectPos(t, x, 9, 2, 7)
	expectPos(t, x, 10, 3, 1)
	expectOffset(t, x, 2, 7, 9)
	expectNoOffset(t, x, 2, 8, api.ErrRange)
	expectOffset(t, x, 3, 1, 10)
	expectLine(t, x, 3, 10, 10)
	expectPos(t, Table{Starts: []int{0}, Size: 0}, 0, 1, 1)
	// The memory behind the starts is no part of them.
	expectNoLine(t, Table{Starts: []int{0, 1, 2}[:1], Size: 5}, 2, api.ErrRange)
	expectNoLine(t, Table{Starts: []int{0, 1}[:0], Size: 5}, 1, api.ErrForm)
}

// P2.2, P2.3: no sum wraps around into an answer.
func TestLargestTables(t *testing.T) {
	one := Table{Starts: []int{0}, Size: math.MaxInt}
	expectPos(t, one, 0, 1, 1)
	expectPos(t, one, math.MaxInt-1, 1, math.MaxInt)
	expectOffset(t, one, 1, math.MaxInt, math.MaxInt-1)
	expectNoOffset(t, one, 1, math.MinInt, api.ErrRange)
	expectLine(t, one, 1, 0, math.MaxInt)
	if line, _, e := Pos(one, math.MaxInt); line != 1 || e != nil {
		t.Errorf("Pos of the largest offset = %d, %v", line, e)
	}

	two := Table{Starts: []int{0, 5}, Size: math.MaxInt}
	expectPos(t, two, math.MaxInt, 2, math.MaxInt-4)
	expectOffset(t, two, 2, math.MaxInt-4, math.MaxInt)
	expectNoOffset(t, two, 1, 6, api.ErrRange)
	for _, col := range []int{math.MaxInt - 3, math.MaxInt, math.MinInt, math.MinInt + 1} {
		expectNoOffset(t, two, 1, col, api.ErrRange)
		expectNoOffset(t, two, 2, col, api.ErrRange)
	}

	late := Table{Starts: []int{0, math.MaxInt}, Size: math.MaxInt}
	expectPos(t, late, math.MaxInt-1, 1, math.MaxInt)
	expectPos(t, late, math.MaxInt, 2, 1)
	expectOffset(t, late, 2, 1, math.MaxInt)
	expectOffset(t, late, 1, math.MaxInt, math.MaxInt-1)
	expectNoOffset(t, late, 2, 2, api.ErrRange)
	expectLine(t, late, 2, math.MaxInt, math.MaxInt)
}

// P2.2, P2.3, with rule 4: what is asked of a table leaves it as it was.
func TestTableStays(t *testing.T) {
	x := New([]byte("ab\n\ncd"))
	for n := -1; n < 8; n++ {
		Pos(x, n)
		Offset(x, n, n)
		Line(x, n)
	}
	if !slices.Equal(x.Starts, []int{0, 3, 4}) || x.Size != 6 {
		t.Errorf("the table changed to %v", x)
	}
}
