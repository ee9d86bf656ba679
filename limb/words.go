package limb

import (
	"cmp"
	"math"
	"math/bits"

	"cavil/api"
)

const (
	wordBits = 64
	maxBits  = wordBits * api.Words
)

// words is the magnitude of a number, the lowest word first.
type words [api.Words]uint64

// length returns the number of words up to the highest one that is not 0.
func length(w words) int {
	n := len(w)
	for n > 0 && w[n-1] == 0 {
		n--
	}
	return n
}

// bitLength returns the number of bits up to the highest one that is not 0.
func bitLength(w words) int {
	n := length(w)
	if n == 0 {
		return 0
	}
	return (n-1)*wordBits + bits.Len64(w[n-1])
}

// compare returns -1, 0 or 1 if a is less than, equal to, or greater than b.
func compare(a, b words) int {
	for i := len(a) - 1; i >= 0; i-- {
		if a[i] != b[i] {
			return cmp.Compare(a[i], b[i])
		}
	}
	return 0
}

// add returns the sum and what is carried out of it.
func add(a, b words) (sum words, carry uint64) {
	for i := range a {
		sum[i], carry = bits.Add64(a[i], b[i], carry)
	}
	return sum, carry
}

// subtract returns a - b, for b at most a.
func subtract(a, b words) (difference words) {
	borrow := uint64(0)
	for i := range a {
		difference[i], borrow = bits.Sub64(a[i], b[i], borrow)
	}
	return difference
}

// multiply returns the product: its lower words, and those that do not fit.
func multiply(a, b words) (low, high words) {
	var product [2 * api.Words]uint64
	for i := range length(a) {
		carry := uint64(0)
		for j := range b {
			carry, product[i+j] = multiplyAdd(a[i], b[j], product[i+j], carry)
		}
		product[i+len(b)] = carry
	}
	copy(low[:], product[:])
	copy(high[:], product[len(low):])
	return low, high
}

// multiplyAdd returns x * y + c + d, which two words always hold.
func multiplyAdd(x, y, c, d uint64) (high, low uint64) {
	high, low = bits.Mul64(x, y)
	low, carry := bits.Add64(low, c, 0)
	high += carry
	low, carry = bits.Add64(low, d, 0)
	return high + carry, low
}

// divide returns the quotient and the remainder, for b greater than 0.
func divide(a, b words) (quotient, remainder words) {
	n := length(b)
	// With the highest bit of the divisor set, a word of the quotient can be guessed from the highest words.
	shift := bits.LeadingZeros64(b[n-1])
	b = shiftLeft(b, shift)
	rest := widen(a, shift)
	for i := length(a) - n; i >= 0; i-- {
		quotient[i] = takeOut(rest[i:i+n+1], b[:n])
	}
	copy(remainder[:], rest[:])
	return quotient, shiftRight(remainder, shift)
}

// widen returns a * 2^shift, for shift less than 64, with a word for the bits that are shifted out of the others.
func widen(a words, shift int) (wide [api.Words + 1]uint64) {
	moved := shiftLeft(a, shift)
	copy(wide[:], moved[:])
	wide[len(a)] = a[len(a)-1] >> (wordBits - shift)
	return wide
}

// takeOut subtracts the divisor from rest, which has one word more, as often as it goes, and returns how often that is.
func takeOut(rest, divisor []uint64) uint64 {
	n := len(divisor)
	times := uint64(math.MaxUint64)
	if rest[n] < divisor[n-1] {
		times, _ = bits.Div64(rest[n], rest[n-1], divisor[n-1])
	}
	// The guess is never too small, and at most 2 too great: a rest below 0 is above it again as soon as an addition carries.
	below := subtractTimes(rest, divisor, times) != 0
	for below {
		times--
		below = addTo(rest, divisor) == 0
	}
	return times
}

// subtractTimes subtracts times * divisor from rest, which has one word more, and returns what is borrowed.
func subtractTimes(rest, divisor []uint64, times uint64) uint64 {
	var high, low, borrow uint64
	for i, d := range divisor {
		high, low = multiplyAdd(d, times, high, 0)
		rest[i], borrow = bits.Sub64(rest[i], low, borrow)
	}
	rest[len(divisor)], borrow = bits.Sub64(rest[len(divisor)], high, borrow)
	return borrow
}

// addTo adds the divisor to rest, which has one word more, and returns what is carried.
func addTo(rest, divisor []uint64) uint64 {
	carry := uint64(0)
	for i, d := range divisor {
		rest[i], carry = bits.Add64(rest[i], d, carry)
	}
	rest[len(divisor)], carry = bits.Add64(rest[len(divisor)], 0, carry)
	return carry
}

// shiftLeft returns w * 2^n without the bits that do not fit, for n at least 0 and less than maxBits.
func shiftLeft(w words, n int) (moved words) {
	copy(moved[n/wordBits:], w[:])
	n %= wordBits
	for i := len(w) - 1; i > 0; i-- {
		moved[i] = moved[i]<<n | moved[i-1]>>(wordBits-n)
	}
	moved[0] <<= n
	return moved
}

// shiftRight returns w / 2^n, rounded down, for n at least 0.
func shiftRight(w words, n int) (moved words) {
	if n >= maxBits {
		return moved
	}
	copy(moved[:], w[n/wordBits:])
	n %= wordBits
	last := len(w) - 1
	for i := range last {
		moved[i] = moved[i]>>n | moved[i+1]<<(wordBits-n)
	}
	moved[last] >>= n
	return moved
}
