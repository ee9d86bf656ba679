package konst

import (
	"math"
	"math/big"
	"slices"
	"testing"

	"cavil/api"
)

// operators are all kinds of tokens, numbers around them, and the largest ones.
func operators() []int {
	l := []int{math.MinInt, math.MinInt + api.TkAdd, -1 << 32, -api.TkAdd, 1<<32 + api.TkAdd, 1<<8 + api.TkAdd, math.MaxInt}
	for op := -2; op <= api.TkColon+3; op++ {
		l = append(l, op)
	}
	return l
}

// floatOperators apply to all numbers, and wholeOperators to those alone that are no floats.
func floatOperators() []int { return []int{api.TkAdd, api.TkSub, api.TkMul, api.TkQuo} }
func wholeOperators() []int {
	return []int{api.TkRem, api.TkAnd, api.TkOr, api.TkXor, api.TkAndNot}
}

// eachPair calls f with each pair of some constants, in either order, and each of some operators.
func eachPair(l []api.Const, ops []int, f func(op int, a, b api.Const)) {
	for _, a := range l {
		for _, b := range l {
			for _, op := range ops {
				f(op, a, b)
			}
		}
	}
}

// unaryByWords is what P12.2 says of a valid constant, word by word.
func unaryByWords(op int, a api.Const) (api.Const, error) {
	n, d := parts(a)
	switch {
	case op == api.TkAdd && a.Kind >= 3:
		return a, nil
	case op == api.TkSub && a.Kind >= 3:
		return made(a.Kind, n.Neg(n), d)
	case op == api.TkXor && (a.Kind == 3 || a.Kind == 4):
		return made(a.Kind, n.Sub(big.NewInt(-1), n), d)
	case op == api.TkNot && a.Kind == 1:
		return boolean(!a.B), nil
	}
	return none, api.ErrKind
}

// binaryByWords is what P12.3 says of valid constants, word by word.
func binaryByWords(op int, a, b api.Const) (api.Const, error) {
	kind := max(a.Kind, b.Kind)
	numbers := a.Kind >= 3 && b.Kind >= 3
	switch {
	case a.Kind == 1 && b.Kind == 1 && op == api.TkLand:
		return boolean(a.B && b.B), nil
	case a.Kind == 1 && b.Kind == 1 && op == api.TkLor:
		return boolean(a.B || b.B), nil
	case a.Kind == 2 && b.Kind == 2 && op == api.TkAdd:
		return words(a.S + b.S), nil
	case numbers && kind == 5 && slices.Contains(floatOperators(), op):
		return floatsByWords(op, a, b)
	case numbers && kind != 5 && slices.Contains(append(floatOperators(), wholeOperators()...), op):
		return wholesByWords(op, a, b)
	}
	return none, api.ErrKind
}

// floatsByWords is what P12.3, and thereby P8.2, says of numbers of which one is a float.
func floatsByWords(op int, a, b api.Const) (api.Const, error) {
	n, d := parts(a)
	m, e := parts(b)
	mul := func(x, y *big.Int) *big.Int { return new(big.Int).Mul(x, y) }
	left, right, bottom := mul(n, e), mul(m, d), mul(d, e)
	switch {
	case op == api.TkMul:
		return made(5, mul(n, m), bottom)
	case op == api.TkQuo && m.Sign() == 0:
		return none, api.ErrZero
	case op == api.TkQuo:
		return made(5, left, mul(d, m))
	case !fit(left, right):
		return none, api.ErrOver
	case op == api.TkSub:
		right.Neg(right)
	}
	return made(5, left.Add(left, right), bottom)
}

// wholesByWords is what P12.3 says of numbers that are no floats.
func wholesByWords(op int, a, b api.Const) (api.Const, error) {
	x, _ := parts(a)
	y, _ := parts(b)
	if (op == api.TkQuo || op == api.TkRem) && y.Sign() == 0 {
		return none, api.ErrZero
	}
	f := map[int]func(z, x, y *big.Int) *big.Int{
		api.TkAdd: (*big.Int).Add, api.TkSub: (*big.Int).Sub, api.TkMul: (*big.Int).Mul, api.TkQuo: (*big.Int).Quo, api.TkRem: (*big.Int).Rem,
		api.TkAnd: (*big.Int).And, api.TkOr: (*big.Int).Or, api.TkXor: (*big.Int).Xor, api.TkAndNot: (*big.Int).AndNot,
	}[op]
	return made(max(a.Kind, b.Kind), f(new(big.Int), x, y), big.NewInt(1))
}

// expectUnary expects a constant or an error of Unary.
func expectUnary(t *testing.T, op int, a, want api.Const, wrong error) {
	t.Helper()
	got, e := Unary(op, a)
	call{"Unary", op, []api.Const{a}}.expect(t, got, e, want, wrong)
}

// expectBinary expects a constant or an error of Binary.
func expectBinary(t *testing.T, op int, a, b, want api.Const, wrong error) {
	t.Helper()
	got, e := Binary(op, a, b)
	call{"Binary", op, []api.Const{a, b}}.expect(t, got, e, want, wrong)
}

// P12.2, P12.9: each constant by each operator, and by what is none.
func TestUnaryOfEveryConstant(t *testing.T) {
	for _, a := range valid() {
		for _, op := range operators() {
			want, wrong := unaryByWords(op, a)
			expectUnary(t, op, a, want, wrong)
		}
	}
}

// P12.2
func TestUnary(t *testing.T) {
	for _, c := range []struct {
		op      int
		a, want api.Const
	}{
		{api.TkAdd, integer("5"), integer("5")}, {api.TkAdd, letter("-5"), letter("-5")}, {api.TkAdd, float("1/2"), float("1/2")}, {api.TkAdd, integer(below(512, -1)), integer(below(512, -1))},
		{api.TkSub, integer("5"), integer("-5")}, {api.TkSub, letter("-5"), letter("5")}, {api.TkSub, float("1/2"), float("-1/2")}, {api.TkSub, integer("0"), integer("0")}, {api.TkSub, float("0"), float("0")},
		{api.TkSub, integer(near(512, -1)), integer(below(512, -1))}, {api.TkSub, float("-1/" + near(512, -1)), float("1/" + near(512, -1))},
		{api.TkXor, integer("5"), integer("-6")}, {api.TkXor, integer("-6"), integer("5")}, {api.TkXor, letter("97"), letter("-98")}, {api.TkXor, integer("0"), integer("-1")}, {api.TkXor, integer("-1"), integer("0")},
		{api.TkXor, integer(near(512, -2)), integer(below(512, -1))}, {api.TkXor, integer(below(512, -1)), integer(near(512, -2))}, {api.TkXor, letter(below(512, -1)), letter(near(512, -2))},
		{api.TkNot, boolean(true), boolean(false)}, {api.TkNot, boolean(false), boolean(true)},
	} {
		expectUnary(t, c.op, c.a, c.want, nil)
	}
	// -1 minus the greatest number is the one result that does not fit.
	expectUnary(t, api.TkXor, integer(near(512, -1)), none, api.ErrOver)
	expectUnary(t, api.TkXor, letter(near(512, -1)), none, api.ErrOver)
}

// P12.2
func TestUnaryOfWrongKind(t *testing.T) {
	for _, c := range []struct {
		op int
		l  []api.Const
	}{
		{api.TkAdd, []api.Const{boolean(true), words(""), words("1")}}, {api.TkSub, []api.Const{boolean(false), words("1")}}, {api.TkXor, []api.Const{boolean(true), words("1"), float("5"), float("1/2")}},
		{api.TkNot, []api.Const{words("true"), integer("0"), letter("1"), float("0")}},
		{api.TkMul, valid()}, {api.TkAnd, valid()}, {api.TkArrow, valid()}, {api.TkTilde, valid()}, {api.TkInc, valid()}, {api.TkSubAssign, valid()}, {0, valid()}, {-1, valid()},
	} {
		for _, a := range c.l {
			expectUnary(t, c.op, a, none, api.ErrKind)
		}
	}
}

// P12.3, P12.9: each pair by each operator, and by some that are none of Binary.
func TestBinaryOfEveryPair(t *testing.T) {
	ops := slices.Concat(floatOperators(), wholeOperators(), []int{api.TkLand, api.TkLor, api.TkShl, api.TkEql, api.TkNot, api.TkAddAssign, 0})
	eachPair(valid(), ops, func(op int, a, b api.Const) {
		want, wrong := binaryByWords(op, a, b)
		expectBinary(t, op, a, b, want, wrong)
	})
}

// P12.3: a pair of each two kinds by all operators, and by what is none.
func TestBinaryByEveryOperator(t *testing.T) {
	l := []api.Const{boolean(true), words("ab"), integer("-7"), letter("2"), float("2"), float("5/3"), integer("0")}
	eachPair(l, operators(), func(op int, a, b api.Const) {
		want, wrong := binaryByWords(op, a, b)
		expectBinary(t, op, a, b, want, wrong)
	})
}

// P12.3: small numbers, by Go's own arithmetic.
func TestBinaryOfSmallNumbers(t *testing.T) {
	of := func(n int64) api.Const { return integer(big.NewInt(n).String()) }
	for x := int64(-12); x <= 12; x++ {
		for y := int64(-12); y <= 12; y++ {
			want := map[int]int64{api.TkAdd: x + y, api.TkSub: x - y, api.TkMul: x * y, api.TkAnd: x & y, api.TkOr: x | y, api.TkXor: x ^ y, api.TkAndNot: x &^ y}
			if y != 0 {
				want[api.TkQuo], want[api.TkRem] = x/y, x%y
			}
			for op, n := range want {
				expectBinary(t, op, of(x), of(y), of(n), nil)
			}
		}
	}
}

// P12.3
func TestBinary(t *testing.T) {
	yes, no := boolean(true), boolean(false)
	for _, c := range []struct {
		op         int
		a, b, want api.Const
	}{
		{api.TkLand, yes, yes, yes}, {api.TkLand, yes, no, no}, {api.TkLand, no, yes, no}, {api.TkLand, no, no, no},
		{api.TkLor, yes, yes, yes}, {api.TkLor, yes, no, yes}, {api.TkLor, no, yes, yes}, {api.TkLor, no, no, no},
		{api.TkAdd, words("a"), words("bc"), words("abc")}, {api.TkAdd, words("bc"), words("a"), words("bca")}, {api.TkAdd, words(""), words("a"), words("a")}, {api.TkAdd, words("a"), words(""), words("a")}, {api.TkAdd, words("\xc3"), words("\xa9"), words("é")},
		{api.TkQuo, integer("7"), integer("2"), integer("3")}, {api.TkQuo, float("7"), integer("2"), float("7/2")}, {api.TkQuo, integer("7"), float("2"), float("7/2")}, {api.TkQuo, letter("7"), float("2"), float("7/2")}, {api.TkQuo, float("6"), float("2"), float("3")},
		{api.TkQuo, integer("-7"), integer("2"), integer("-3")}, {api.TkQuo, integer("7"), letter("-2"), letter("-3")}, {api.TkQuo, letter("-7"), letter("-2"), letter("3")}, {api.TkQuo, letter("1"), integer("2"), letter("0")}, {api.TkQuo, integer("-1"), integer("2"), integer("0")},
		{api.TkRem, integer("-7"), integer("2"), integer("-1")}, {api.TkRem, integer("7"), letter("-2"), letter("1")}, {api.TkRem, letter("-7"), integer("-2"), letter("-1")}, {api.TkRem, letter("6"), letter("-3"), letter("0")},
		{api.TkQuo, float("-7/2"), float("-1/2"), float("7")}, {api.TkQuo, float("1"), float("-3"), float("-1/3")}, {api.TkQuo, integer("0"), float("-3"), float("0")},
		{api.TkAdd, integer("1"), integer("2"), integer("3")}, {api.TkAdd, integer("1"), letter("2"), letter("3")}, {api.TkAdd, letter("1"), integer("2"), letter("3")}, {api.TkAdd, float("1"), letter("2"), float("3")}, {api.TkAdd, integer("1"), float("2"), float("3")},
		{api.TkSub, float("1/2"), float("1/3"), float("1/6")}, {api.TkSub, integer("1"), float("1/3"), float("2/3")}, {api.TkMul, letter("3"), float("-2/3"), float("-2")}, {api.TkMul, letter("3"), integer("-2"), letter("-6")},
		{api.TkAnd, integer("6"), integer("3"), integer("2")}, {api.TkAnd, integer("-1"), letter("6"), letter("6")}, {api.TkAnd, integer("-4"), integer("-6"), integer("-8")}, {api.TkOr, integer("-4"), integer("1"), integer("-3")},
		{api.TkXor, letter("-1"), integer("5"), letter("-6")}, {api.TkAndNot, integer("7"), integer("2"), integer("5")}, {api.TkAndNot, integer("-1"), integer("6"), integer("-7")}, {api.TkAndNot, letter("6"), letter("-1"), letter("0")},
		{api.TkAnd, integer(near(512, -1)), integer("-1"), integer(near(512, -1))}, {api.TkOr, integer(below(512, -1)), integer(near(512, -1)), integer("-1")}, {api.TkXor, integer(near(512, -2)), integer("-1"), integer(below(512, -1))},
		{api.TkAndNot, integer("-1"), integer(near(512, -2)), integer(below(512, -1))}, {api.TkAnd, integer(below(512, -1)), integer(below(512, -1)), integer(below(512, -1))},
	} {
		expectBinary(t, c.op, c.a, c.b, c.want, nil)
	}
}

// P12.3
func TestBinaryOfWrongKinds(t *testing.T) {
	one, half, yes, s := integer("1"), float("1/2"), boolean(true), words("a")
	for _, c := range []struct {
		op   int
		a, b api.Const
	}{
		{api.TkAdd, yes, yes}, {api.TkAdd, s, yes}, {api.TkAdd, s, one}, {api.TkAdd, s, letter("97")}, {api.TkAdd, s, half}, {api.TkAdd, yes, half}, {api.TkSub, s, s}, {api.TkMul, s, one}, {api.TkQuo, s, s}, {api.TkQuo, yes, yes},
		{api.TkLand, one, one}, {api.TkLand, yes, one}, {api.TkLor, yes, s}, {api.TkLor, s, s}, {api.TkLor, half, half}, {api.TkAnd, yes, yes}, {api.TkXor, yes, yes}, {api.TkOr, s, s},
		{api.TkRem, half, half}, {api.TkRem, float("6"), one}, {api.TkAnd, one, float("6")}, {api.TkOr, float("6"), letter("1")}, {api.TkXor, float("1"), float("1")}, {api.TkAndNot, letter("1"), half},
		{api.TkShl, one, one}, {api.TkShr, one, one}, {api.TkEql, one, one}, {api.TkLss, s, s}, {api.TkNot, yes, yes}, {api.TkArrow, one, one}, {api.TkAddAssign, one, one}, {api.TkInc, one, one}, {api.TkTilde, one, one},
		// The operator comes ahead of the divisor.
		{api.TkRem, float("1"), integer("0")}, {api.TkRem, integer("1"), float("0")}, {api.TkQuo, s, integer("0")}, {api.TkRem, yes, integer("0")},
	} {
		expectBinary(t, c.op, c.a, c.b, none, api.ErrKind)
		expectBinary(t, c.op, c.b, c.a, none, api.ErrKind)
	}
}

// P12.3: by 0 of each kind, of all numbers.
func TestBinaryByZero(t *testing.T) {
	for _, a := range someNumbers() {
		for kind := 3; kind <= 5; kind++ {
			expectBinary(t, api.TkQuo, a, of(kind, "0"), none, api.ErrZero)
			want := error(api.ErrZero)
			if a.Kind == 5 || kind == 5 {
				want = api.ErrKind
			}
			expectBinary(t, api.TkRem, a, of(kind, "0"), none, want)
		}
	}
}

// P12.3: results that just fit and just do not; none stands for ErrOver.
func TestBinaryEdges(t *testing.T) {
	most, least := near(512, -1), below(512, -1)
	for _, c := range []struct {
		op         int
		a, b, want api.Const
	}{
		{api.TkAdd, integer(near(512, -2)), integer("1"), integer(most)}, {api.TkAdd, integer(most), integer("1"), none}, {api.TkAdd, letter(near(511, 0)), integer(near(511, 0)), none}, {api.TkAdd, float(most), integer("1"), none},
		{api.TkSub, integer(below(512, -2)), letter("1"), letter(least)}, {api.TkSub, integer(least), integer("1"), none}, {api.TkSub, integer("-1"), float(most), none}, {api.TkSub, integer(most), integer(most), integer("0")},
		{api.TkMul, integer(near(256, -1)), integer(near(256, 1)), integer(most)}, {api.TkMul, integer(near(256, 0)), integer(near(256, 0)), none}, {api.TkMul, integer(near(511, 0)), float("2"), none}, {api.TkMul, letter(near(511, 0)), letter("-2"), none},
		{api.TkQuo, integer(least), integer("-1"), integer(most)}, {api.TkQuo, integer(most), letter(least), letter("-1")}, {api.TkRem, integer(most), integer(near(511, 0)), integer(near(511, -1))},
		// What does not fit stands between; the result, in lowest terms, would.
		{api.TkMul, float(near(511, 0)), float("2/3"), none}, {api.TkAdd, float(near(511, 0)), float("-1/2"), none}, {api.TkSub, float("1/" + near(256, 0)), float("1/" + near(256, 0)), none}, {api.TkQuo, float(near(511, 0)), float("1/2"), none},
		{api.TkQuo, float("1/2"), integer(near(511, 0)), none}, {api.TkQuo, float(most), float(most), float("1")}, {api.TkMul, integer("0"), float("1/" + most), float("0")}, {api.TkAdd, integer("0"), float("1/" + most), float("1/" + most)}, {api.TkAdd, float("1/2"), float("1/" + most), none},
		// -2^512 is the one such result of the bits.
		{api.TkAnd, integer(least), integer("-2"), none}, {api.TkXor, integer(most), integer("-1"), none}, {api.TkAndNot, integer("-1"), letter(most), none}, {api.TkOr, integer(least), integer("-2"), integer("-1")}, {api.TkAnd, integer(below(512, -2)), integer("-2"), integer(below(512, -2))},
	} {
		wrong := error(nil)
		if c.want == none {
			wrong = api.ErrOver
		}
		expectBinary(t, c.op, c.a, c.b, c.want, wrong)
	}
}
