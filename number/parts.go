package number

import (
	"errors"
	"strconv"
	"strings"

	"cavil/api"
	"cavil/limb"
)

// parts are the digits of a float literal, without underscores, and the sign of its exponent.
type parts struct{ whole, fraction, sign, exponent string }

// split returns the parts of s, and whether s has the form of a float literal.
func split(s string) (p parts, ok bool) {
	// A missing exponent is 0.
	p.exponent = "0"
	digits := join(s)
	mark := strings.IndexAny(digits, exponentMarks)
	if mark >= 0 {
		p.sign, p.exponent = cutSign(digits[mark+1:])
		digits = digits[:mark]
	}
	whole, fraction, dotted := strings.Cut(digits, ".")
	p.whole, p.fraction = whole, fraction
	ok = separated(s, digit) && (dotted || mark >= 0) && decimal(whole+fraction) && decimal(p.exponent)
	return p, ok
}

// power returns the power of ten by which all the digits as one whole number are multiplied, for an exponent of at most maxExponent digits.
func (p parts) power() int {
	// So few digits always fit, with either sign.
	exponent, _ := strconv.Atoi(p.sign + p.exponent)
	return exponent - len(p.fraction)
}

// cutSign returns the sign that s begins with, if any, and the rest.
func cutSign(s string) (sign, rest string) {
	if s != "" && isSign(s[0]) {
		return s[:1], s[1:]
	}
	return "", s
}

// separated reports whether each underscore stands between two digits of a class.
func separated(s string, digits class) bool {
	for i := range len(s) {
		inside := i > 0 && i < len(s)-1
		if s[i] == '_' && !(inside && digits.has(s[i-1]) && digits.has(s[i+1])) {
			return false
		}
	}
	return true
}

// join returns s without underscores.
func join(s string) string {
	return strings.ReplaceAll(s, "_", "")
}

// decimal reports whether s is decimal digits, and at least one.
func decimal(s string) bool {
	_, e := limb.Parse(s, 10)
	// A number that is too great is one all the same.
	return e == nil || errors.Is(e, api.ErrOver)
}
