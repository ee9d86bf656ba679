package quote

import (
	"strconv"
	"strings"

	"cavil/api"
	"cavil/utf"
)

const (
	backslash = '\\'
	lineFeed  = '\n'
)

// controls are the letters of the escapes of control bytes, in the order of these bytes, which follow each other.
const (
	controls     = "abtnvfr"
	firstControl = 7
)

// byteBits and runeBits: a greater number is none of a byte, and none of a rune.
const (
	byteBits = 8
	runeBits = 31
)

// unit is an escape, or what stands for itself: its number, the bytes that it is in a text, and its own length in the literal.
type unit struct {
	number rune
	text   string
	size   int
}

// numeral is how an escape writes a number: how many digits, in what base, ahead of which there are how many bytes; and whether the number is a rune's, not a byte's.
type numeral struct {
	head, digits, base int
	ofRune             bool
}

// next returns the unit that s begins with, within a literal with that quote; plain tells what stands for itself there, or why it can't.
func next(s string, quote byte, plain func(s string) (unit, error)) (unit, error) {
	switch s[0] {
	case quote, lineFeed:
		return unit{}, api.ErrForm
	case backslash:
		if u, ok := escape(s, quote); ok {
			return u, nil
		}
		return unit{}, api.ErrEscape
	}
	return plain(s)
}

// escape returns the escape that s, whose first byte is a backslash, begins with, within a literal with that quote.
func escape(s string, quote byte) (u unit, ok bool) {
	if len(s) < 2 {
		return unit{}, false
	}
	n := numeral{head: 2, base: 16}
	switch s[1] {
	case 'U':
		n.digits += 4
		fallthrough
	case 'u':
		n.digits += 2
		n.ofRune = true
		fallthrough
	case 'x':
		n.digits += 2
	case '0', '1', '2', '3', '4', '5', '6', '7':
		n = numeral{head: 1, digits: 3, base: 8}
	default:
		return letter(s[1], quote)
	}
	return n.read(s)
}

// letter returns the escape that consists of a backslash and c, within a literal with that quote.
func letter(c, quote byte) (u unit, ok bool) {
	if i := strings.IndexByte(controls, c); i >= 0 {
		return byteUnit(firstControl+byte(i), 2), true
	}
	if c == backslash || c == quote {
		return byteUnit(c, 2), true
	}
	return unit{}, false
}

// read returns the escape that s begins with, if its digits are as n has them.
func (n numeral) read(s string) (u unit, ok bool) {
	size := n.head + n.digits
	if len(s) < size {
		return unit{}, false
	}
	bits := byteBits
	if n.ofRune {
		bits = runeBits
	}
	number, e := strconv.ParseUint(s[n.head:size], n.base, bits)
	if e != nil {
		return unit{}, false
	}
	if !n.ofRune {
		return byteUnit(byte(number), size), true
	}
	text, e := utf.Encode(rune(number))
	if e != nil {
		return unit{}, false
	}
	return unit{number: rune(number), text: string(text), size: size}, true
}

// byteUnit returns the escape of a byte.
func byteUnit(c byte, size int) unit {
	return unit{number: rune(c), text: string([]byte{c}), size: size}
}
