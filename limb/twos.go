package limb

import (
	"math/bits"

	"cavil/api"
)

// twos is a number in two's complement. All bits of its highest word are alike: they stand for the higher ones, which go on without end.
type twos [api.Words + 1]uint64

// combine returns the number whose words op makes of those of a and b, or ErrOver.
func combine(a, b api.Int, op func(x, y uint64) uint64) (api.Int, error) {
	x, y := complement(a), complement(b)
	for i := range x {
		x[i] = op(x[i], y[i])
	}
	return number(x)
}

// complement returns a in two's complement.
func complement(a api.Int) (t twos) {
	copy(t[:], a.W[:])
	if a.Neg {
		t = negate(t)
	}
	return t
}

// number returns what stands in two's complement, or ErrOver: -2^512 is the one such number that does not fit.
func number(t twos) (api.Int, error) {
	neg := t[api.Words] != 0
	if neg {
		t = negate(t)
	}
	if t[api.Words] != 0 {
		return api.Int{}, api.ErrOver
	}
	a := api.Int{Neg: neg}
	copy(a.W[:], t[:])
	return a, nil
}

// negate returns the negated number: all bits turned, and one more.
func negate(t twos) twos {
	carry := uint64(1)
	for i := range t {
		t[i], carry = bits.Add64(^t[i], 0, carry)
	}
	return t
}
