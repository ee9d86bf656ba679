// Package utf is layer 1, the encoding UTF-8: see shared/doc/01-utf.md.
package utf

import "cavil/api"

// lastRune is the greatest rune; the surrogates below it are not runes.
const (
	lastRune       = 0x10ffff
	firstSurrogate = 0xd800
	lastSurrogate  = 0xdfff
)

// restBits and restHead: every byte of an encoding but the first carries six bits, below the head 80.
const (
	restBits = 6
	restMask = 1<<restBits - 1
	restHead = 0x80
)

// heads is what the first byte of an encoding adds to the rune's upper bits, by the encoding's length.
var heads = [5]byte{1: 0, 2: 0xc0, 3: 0xe0, 4: 0xf0}

// Decode returns the rune whose encoding begins at b[at], and that encoding's length.
func Decode(b []byte, at int) (r rune, size int, e error) {
	if at < 0 || at >= len(b) {
		return 0, 0, api.ErrRange
	}
	n := announced(b[at])
	if n == 0 || n > len(b)-at {
		return 0, 0, api.ErrUtf
	}
	r = rune(b[at] - heads[n])
	for _, c := range b[at+1 : at+n] {
		if !continues(c) {
			return 0, 0, api.ErrUtf
		}
		r = r<<restBits | rune(c&restMask)
	}
	// A rune has one encoding only: a longer one than it needs is none.
	if !isRune(r) || length(r) != n {
		return 0, 0, api.ErrUtf
	}
	return r, n, nil
}

// Encode returns the encoding of r.
func Encode(r rune) ([]byte, error) {
	if !isRune(r) {
		return nil, api.ErrRange
	}
	b := make([]byte, length(r))
	for i := len(b) - 1; i > 0; i-- {
		b[i] = restHead | byte(r&restMask)
		r >>= restBits
	}
	b[0] = heads[len(b)] | byte(r)
	return b, nil
}

// Check reports where b stops being a concatenation of encodings, if it does.
func Check(b []byte) error {
	_, e := Count(b)
	return e
}

// Boundary reports whether no encoding reaches across at.
func Boundary(b []byte, at int) bool {
	if at < 0 || at > len(b) {
		return false
	}
	return at == len(b) || !continues(b[at])
}

// Count returns the number of runes of b, or the error of Check.
func Count(b []byte) (int, error) {
	if len(b) > api.MaxFile {
		return 0, api.ErrLong
	}
	runes := 0
	for at := 0; at < len(b); runes++ {
		_, size, e := Decode(b, at)
		if e != nil {
			return 0, api.At{Off: at, Err: e}
		}
		at += size
	}
	return runes, nil
}

// isRune reports whether r is a rune.
func isRune(r rune) bool {
	return r >= 0 && r <= lastRune && (r < firstSurrogate || r > lastSurrogate)
}

// continues reports whether c can only be a later byte of an encoding.
func continues(c byte) bool {
	return c&^restMask == restHead
}

// length returns the length of the encoding of the rune r: one byte more for each bound that r exceeds.
func length(r rune) int {
	n := 1
	switch {
	case r > 0xffff:
		n++
		fallthrough
	case r > 0x7ff:
		n++
		fallthrough
	case r > 0x7f:
		n++
	}
	return n
}

// announced returns the length of an encoding that begins with the byte c; 0 if none does.
func announced(c byte) int {
	n := 0
	switch {
	case c >= 0xf8:
		return 0
	case c >= 0xf0:
		n++
		fallthrough
	case c >= 0xe0:
		n++
		fallthrough
	case c >= 0xc0:
		n++
		fallthrough
	case c < 0x80:
		n++
	}
	return n
}
