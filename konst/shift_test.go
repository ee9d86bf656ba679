package konst

import (
	"math/big"
	"strconv"
	"testing"

	"cavil/api"
)

// shiftByWords is what P12.4 says of valid constants, word by word.
func shiftByWords(op int, a, n api.Const) (api.Const, error) {
	if op != api.TkShl && op != api.TkShr || a.Kind < 3 || n.Kind < 3 {
		return none, api.ErrKind
	}
	x, d := parts(a)
	count, e := parts(n)
	one := big.NewInt(1)
	if d.Cmp(one) != 0 || e.Cmp(one) != 0 || count.Sign() < 0 || count.Cmp(big.NewInt(10000)) > 0 {
		return none, api.ErrArg
	}
	kind := a.Kind
	if kind == 5 {
		kind = 3
	}
	if op == api.TkShl {
		return made(kind, x.Lsh(x, uint(count.Int64())), d)
	}
	return made(kind, x.Rsh(x, uint(count.Int64())), d)
}

// expectShift expects a constant or an error of Shift.
func expectShift(t *testing.T, op int, a, n, want api.Const, wrong error) {
	t.Helper()
	got, e := Shift(op, a, n)
	call{"Shift", op, []api.Const{a, n}}.expect(t, got, e, want, wrong)
}

// counts are counts of shifts of all kinds, and numbers that are none.
func counts() []api.Const {
	var l []api.Const
	for i, text := range []string{"0", "1", "2", "63", "64", "65", "510", "511", "512", "513", "600", "9999", "10000", "10001", "-1", "-10000", near(32, 1), near(63, -1), near(63, 0), near(64, 1), below(63, 0), below(64, 0), near(256, 2), near(512, -1), below(512, -1)} {
		l = append(l, of(3+i%3, text), of(3+(i+1)%3, text))
	}
	return append(l, float("1/2"), float("-1/2"), float("3/2"), float("20001/2"), float("1/"+near(512, -1)), boolean(true), boolean(false), words(""), words("1"))
}

// P12.4, P12.9: each constant by each count.
func TestShiftOfEveryPair(t *testing.T) {
	for _, a := range valid() {
		for _, n := range counts() {
			for _, op := range []int{api.TkShl, api.TkShr, api.TkAdd, api.TkShlAssign, api.TkLss} {
				want, wrong := shiftByWords(op, a, n)
				expectShift(t, op, a, n, want, wrong)
			}
		}
	}
}

// P12.4: numbers of some lengths by each count up to more than their bits.
func TestShiftByEveryCount(t *testing.T) {
	for _, text := range []string{"0", "1", "-1", "5", "-5", near(64, -1), below(64, 1), near(255, 1), below(512, -1)} {
		for n := range 530 {
			for _, op := range []int{api.TkShl, api.TkShr} {
				a, count := of(3+n%3, text), integer(strconv.Itoa(n))
				want, wrong := shiftByWords(op, a, count)
				expectShift(t, op, a, count, want, wrong)
			}
		}
	}
}

// P12.4: all operators, and what is none: for constants that could be shifted, and for such that could not.
func TestShiftByEveryOperator(t *testing.T) {
	l := []api.Const{integer("1"), letter("-2"), float("3"), float("1/2"), boolean(true), words("a"), integer("10001")}
	eachPair(l, operators(), func(op int, a, n api.Const) {
		want, wrong := shiftByWords(op, a, n)
		expectShift(t, op, a, n, want, wrong)
	})
}

// P12.4
func TestShift(t *testing.T) {
	for _, c := range []struct {
		op         int
		a, n, want api.Const
	}{
		{api.TkShl, integer("3"), integer("4"), integer("48")}, {api.TkShl, letter("3"), integer("4"), letter("48")}, {api.TkShl, float("3"), integer("4"), integer("48")}, {api.TkShl, integer("3"), letter("4"), integer("48")}, {api.TkShl, letter("3"), float("4"), letter("48")},
		{api.TkShl, integer("-3"), integer("0"), integer("-3")}, {api.TkShl, integer("-3"), integer("1"), integer("-6")}, {api.TkShl, float("-3"), float("0"), integer("-3")}, {api.TkShr, float("6"), float("1"), integer("3")},
		{api.TkShr, integer("-9"), integer("1"), integer("-5")}, {api.TkShr, letter("-9"), integer("1"), letter("-5")}, {api.TkShr, integer("9"), integer("1"), integer("4")}, {api.TkShr, integer("9"), integer("4"), integer("0")}, {api.TkShr, integer("-9"), integer("4"), integer("-1")},
		{api.TkShr, integer("-9"), integer("10000"), integer("-1")}, {api.TkShr, integer("9"), integer("10000"), integer("0")}, {api.TkShr, integer(near(512, -1)), integer("511"), integer("1")}, {api.TkShr, integer(below(512, -1)), integer("512"), integer("-1")}, {api.TkShr, integer(near(512, -1)), integer("512"), integer("0")},
		{api.TkShl, integer("1"), integer("511"), integer(near(511, 0))}, {api.TkShl, integer("-1"), integer("511"), integer(below(511, 0))}, {api.TkShl, integer("0"), integer("10000"), integer("0")}, {api.TkShl, float("0"), letter("600"), integer("0")}, {api.TkShr, integer("0"), integer("10000"), integer("0")},
	} {
		expectShift(t, c.op, c.a, c.n, c.want, nil)
	}
}

// P12.4
func TestShiftErrors(t *testing.T) {
	one, half, zero := integer("1"), float("1/2"), integer("0")
	for _, c := range []struct {
		op    int
		a, n  api.Const
		wrong api.Errno
	}{
		{api.TkShl, one, integer("512"), api.ErrOver}, {api.TkShl, one, integer("600"), api.ErrOver}, {api.TkShl, one, integer("10000"), api.ErrOver}, {api.TkShl, letter("-2"), integer("511"), api.ErrOver}, {api.TkShl, float("3"), integer("511"), api.ErrOver},
		{api.TkShl, one, integer("10001"), api.ErrArg}, {api.TkShr, one, integer("10001"), api.ErrArg}, {api.TkShl, zero, integer("10001"), api.ErrArg}, {api.TkShl, one, integer("-1"), api.ErrArg}, {api.TkShr, zero, integer("-1"), api.ErrArg},
		{api.TkShl, half, one, api.ErrArg}, {api.TkShr, half, zero, api.ErrArg}, {api.TkShl, one, half, api.ErrArg}, {api.TkShr, zero, float("3/2"), api.ErrArg}, {api.TkShl, half, half, api.ErrArg}, {api.TkShl, half, integer("10001"), api.ErrArg},
		{api.TkShl, one, integer(near(64, 1)), api.ErrArg}, {api.TkShl, one, integer(below(64, -1)), api.ErrArg}, {api.TkShr, one, float(near(512, -1)), api.ErrArg}, {api.TkShr, one, integer(near(32, 0)), api.ErrArg},
		{api.TkShl, words("1"), one, api.ErrKind}, {api.TkShl, one, words("1"), api.ErrKind}, {api.TkShr, boolean(true), one, api.ErrKind}, {api.TkShr, one, boolean(true), api.ErrKind}, {api.TkShl, words("1"), words("1"), api.ErrKind}, {api.TkShl, boolean(true), boolean(true), api.ErrKind},
		// The kind comes ahead of the value.
		{api.TkShl, half, words(""), api.ErrKind}, {api.TkShl, boolean(true), integer("-1"), api.ErrKind}, {api.TkAdd, half, half, api.ErrKind}, {api.TkAdd, one, integer("-1"), api.ErrKind}, {0, one, integer("512"), api.ErrKind},
	} {
		expectShift(t, c.op, c.a, c.n, none, c.wrong)
	}
}
