package limb

import (
	"strconv"
	"strings"

	"cavil/api"
)

// chunk is the greatest power of ten in one word, and chunkDigits how many digits a remainder by it has.
const (
	chunk       = 10_000_000_000_000_000_000
	chunkDigits = 19
)

// decimal returns the decimal representation of a magnitude.
func decimal(w words) string {
	text := ""
	for {
		higher, rest := divide(w, words{chunk})
		digits := strconv.FormatUint(rest[0], 10)
		if higher == (words{}) {
			return digits + text
		}
		text = strings.Repeat("0", chunkDigits-len(digits)) + digits + text
		w = higher
	}
}

// read returns the number with the digits s, all of which are of the base, or ErrOver.
func read(s string, base int) (api.Int, error) {
	var w words
	for _, c := range []byte(s) {
		carry := uint64(digit(c))
		for i := range w {
			carry, w[i] = multiplyAdd(w[i], uint64(base), carry, 0)
		}
		if carry != 0 {
			return api.Int{}, api.ErrOver
		}
	}
	return api.Int{W: w}, nil
}

// digit returns the value of a digit, or 16 for what is a digit of no base.
func digit(c byte) int {
	switch {
	case '0' <= c && c <= '9':
		return int(c - '0')
	case 'a' <= c && c <= 'f':
		return int(c-'a') + 10
	case 'A' <= c && c <= 'F':
		return int(c-'A') + 10
	}
	return 16
}
