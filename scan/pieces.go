package scan

import (
	"bytes"
	"errors"
	"iter"

	"cavil/api"
	"cavil/number"
	"cavil/quote"
	"cavil/token"
	"cavil/utf"
)

const (
	blanks   = " \t\r"
	lineFeed = '\n'
)

// What comments begin and end with.
const (
	lineComment    = "//"
	generalComment = "/*"
	generalEnd     = "*/"
)

// gap is the kind of a piece that is no token.
const gap = 0

// piece is a token, or bytes between tokens; breaks: a line ends there.
type piece struct {
	api.Token
	breaks bool
}

// pieces produces the pieces of b, one behind the other; the last one has no bytes, and stands where b ends.
func pieces(b []byte) iter.Seq[piece] {
	return func(yield func(piece) bool) {
		for at := 0; at < len(b); {
			p := next(b, at)
			if !yield(p) {
				return
			}
			at = p.To
		}
		yield(piece{Token: api.Token{From: len(b), To: len(b)}, breaks: true})
	}
}

// next returns the piece that begins at the offset, by the first rule that applies.
func next(b []byte, at int) piece {
	c := cursor{b: b, at: at}
	switch {
	case c.blanks():
	case c.comment():
	case c.lineFeed():
	case c.name():
	case c.literal(number.Scan):
	case c.literal(quote.Scan):
	case c.operator():
	default:
		c.stray()
	}
	return c.found
}

// cursor is an offset of b, and the piece that was found there. Each rule is a method that reports whether it applies.
type cursor struct {
	b     []byte
	at    int
	found piece
}

// take makes the next size bytes a piece.
func (c *cursor) take(kind, size int, e api.Errno) {
	c.found = piece{Token: api.Token{Kind: kind, From: c.at, To: c.at + size, Err: e}}
}

func (c *cursor) blanks() bool {
	rest := c.b[c.at:]
	size := len(rest) - len(bytes.TrimLeft(rest, blanks))
	c.take(gap, size, 0)
	return size > 0
}

func (c *cursor) comment() bool {
	rest := c.b[c.at:]
	switch {
	case bytes.HasPrefix(rest, []byte(lineComment)):
		c.take(gap, upTo(rest, lineFeed), 0)
	case bytes.HasPrefix(rest, []byte(generalComment)):
		c.general(rest[len(generalComment):])
	default:
		return false
	}
	return true
}

// general takes a general comment that goes on with these bytes.
func (c *cursor) general(inner []byte) {
	size := bytes.Index(inner, []byte(generalEnd))
	if size < 0 {
		c.take(api.TkBad, len(generalComment)+len(inner), api.ErrCut)
		return
	}
	c.take(gap, len(generalComment)+size+len(generalEnd), 0)
	c.found.breaks = bytes.IndexByte(inner[:size], lineFeed) >= 0
}

func (c *cursor) lineFeed() bool {
	c.take(gap, 1, 0)
	c.found.breaks = true
	return c.b[c.at] == lineFeed
}

func (c *cursor) name() bool {
	size := nameSize(c.b[c.at:])
	if size == 0 {
		return false
	}
	kind := token.Keyword(string(c.b[c.at : c.at+size]))
	if kind == 0 {
		kind = api.TkName
	}
	c.take(kind, size, 0)
	return true
}

// literal takes the literal that the function finds.
func (c *cursor) literal(scan func(b []byte, at int) (kind, size int, e error)) bool {
	kind, size, e := scan(c.b, c.at)
	if size == 0 {
		return false
	}
	if e != nil {
		kind = api.TkBad
	}
	c.take(kind, size, errno(e))
	return true
}

func (c *cursor) operator() bool {
	kind, size := token.Operator(c.b, c.at)
	c.take(kind, size, 0)
	return size > 0
}

// stray takes a rune that begins no token, or a byte that begins no rune.
func (c *cursor) stray() {
	_, size, e := utf.Decode(c.b, c.at)
	if e != nil {
		c.take(api.TkBad, 1, errno(e))
		return
	}
	c.take(api.TkBad, size, api.ErrToken)
}

// upTo returns the number of bytes of b ahead of the first c.
func upTo(b []byte, c byte) int {
	if i := bytes.IndexByte(b, c); i >= 0 {
		return i
	}
	return len(b)
}

// nameSize returns the length of the name that b begins with, 0 if it begins with none.
func nameSize(b []byte) int {
	size := 0
	for {
		r, n, e := utf.Decode(b, size)
		if e != nil || !Letter(r) && (size == 0 || !isDigit(r)) {
			return size
		}
		size += n
	}
}

// isDigit reports whether r is a digit that may stand in a name.
func isDigit(r rune) bool {
	return '0' <= r && r <= '9'
}

// errno returns the constant that an error is or wraps; 0 if there is no error.
func errno(e error) api.Errno {
	var n api.Errno
	errors.As(e, &n)
	return n
}
