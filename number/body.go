package number

import (
	"strings"

	"cavil/api"
)

// prefixSize is the length of the prefixes that tell a base.
const prefixSize = 2

// exponentMarks are the letters after which an exponent stands.
const exponentMarks = "eE"

// class is what a byte can be in a literal, as bits.
type class int

const (
	digit    class = 1 << iota // a digit without a prefix
	hexDigit                   // a digit after a prefix
	part                       // a byte of a body
)

// has reports whether a byte belongs to the class.
func (k class) has(c byte) bool {
	return classes(c)&k != 0
}

// classes returns the classes of a byte: digits are hexadecimal digits, and those are parts of a body.
func classes(c byte) (all class) {
	switch {
	case '0' <= c && c <= '9':
		all |= digit
		fallthrough
	case 'a' <= c && c <= 'f', 'A' <= c && c <= 'F':
		all |= hexDigit
		fallthrough
	case 'a' <= c && c <= 'z', 'A' <= c && c <= 'Z', c == '_', c == '.':
		all |= part
	}
	return all
}

// begins reports whether b begins with a body.
func begins(b []byte) bool {
	return digit.has(b[0]) || b[0] == '.' && len(b) > 1 && digit.has(b[1])
}

// body returns the body that b begins with.
func body(b []byte) []byte {
	base, _ := cutPrefix(string(b[:min(len(b), prefixSize)]))
	// In a hexadecimal body, e is a digit: a sign after it is an operator.
	signed := base != 16
	for i, c := range b {
		if !part.has(c) && !(signed && i > 0 && isSign(c) && isMark(b[i-1])) {
			return b[:i]
		}
	}
	return b
}

// kindOf returns the kind of the literal with this body.
func kindOf(s string) int {
	if base, _ := cutPrefix(s); base == 0 && strings.ContainsAny(s, "."+exponentMarks) {
		return api.TkFloat
	}
	return api.TkInt
}

// cutPrefix returns the base that a prefix tells and what follows that prefix, or 0 and s if there is none.
func cutPrefix(s string) (base int, rest string) {
	if len(s) < prefixSize || s[0] != '0' {
		return 0, s
	}
	switch s[1] {
	case 'x', 'X':
		base = 16
	case 'b', 'B':
		base = 2
	case 'o', 'O':
		base = 8
	default:
		return 0, s
	}
	return base, s[prefixSize:]
}

// isMark reports whether a byte is a letter after which an exponent stands.
func isMark(c byte) bool {
	return strings.IndexByte(exponentMarks, c) >= 0
}

// isSign reports whether a byte is a sign.
func isSign(c byte) bool {
	return c == '+' || c == '-'
}
