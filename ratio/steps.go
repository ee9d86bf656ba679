package ratio

import (
	"cavil/api"
	"cavil/limb"
)

// steps is a computation with numbers of one type. It keeps the first error, and its methods do nothing after it.
type steps[T any] struct{ err error }

// failed reports whether there is an error.
func (s *steps[T]) failed() bool {
	return s.err != nil
}

// keep keeps an error, unless there is an earlier one.
func (s *steps[T]) keep(e error) {
	if !s.failed() {
		s.err = e
	}
}

// do returns what op makes of a and b, or a zero value if that or an earlier step has an error.
func (s *steps[T]) do(op func(a, b T) (T, error), a, b T) T {
	var none T
	if s.failed() {
		return none
	}
	made, e := op(a, b)
	s.keep(e)
	return made
}

// pair is a computation with the parts of two ratios.
type pair struct {
	steps[api.Int]
	a, b api.Rat
}

// begin begins a computation with the parts of a and b, which has an error if one of them is not valid.
func begin(a, b api.Rat) *pair {
	p := &pair{a: a, b: b}
	p.keep(Check(a))
	p.keep(Check(b))
	return p
}

// cross returns the numerators for the common denominator a.D * b.D.
func (p *pair) cross() (left, right api.Int) {
	return p.do(limb.Mul, p.a.N, p.b.D), p.do(limb.Mul, p.b.N, p.a.D)
}

// ratio returns n / d in lowest terms, or the error of a step.
func (p *pair) ratio(n, d api.Int) (api.Rat, error) {
	if p.failed() {
		return api.Rat{}, p.err
	}
	return Make(n, d)
}
