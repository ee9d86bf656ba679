package konst

import (
	"bytes"
	"math/big"
	"testing"

	"cavil/api"
)

// compareByWords is what P12.5 says of valid constants, word by word.
func compareByWords(op int, a, b api.Const) (bool, error) {
	equality := op == api.TkEql || op == api.TkNeq
	ordering := op == api.TkLss || op == api.TkLeq || op == api.TkGtr || op == api.TkGeq
	switch {
	case a.Kind == 1 && b.Kind == 1 && equality:
		return (a.B == b.B) == (op == api.TkEql), nil
	case a.Kind == 2 && b.Kind == 2 && (equality || ordering):
		return comparison(op, bytes.Compare([]byte(a.S), []byte(b.S))), nil
	case a.Kind >= 3 && b.Kind >= 3 && (equality || ordering):
		n, d := parts(a)
		m, e := parts(b)
		left, right := new(big.Int).Mul(n, e), new(big.Int).Mul(m, d)
		if !fit(left, right) {
			return false, api.ErrOver
		}
		return comparison(op, left.Cmp(right)), nil
	}
	return false, api.ErrKind
}

// comparison reports whether a comparison holds of what has this order.
func comparison(op, order int) bool {
	return map[int][3]bool{
		api.TkEql: {false, true, false}, api.TkNeq: {true, false, true}, api.TkLss: {true, false, false},
		api.TkLeq: {true, true, false}, api.TkGtr: {false, false, true}, api.TkGeq: {false, true, true},
	}[op][order+1]
}

// comparisons are the operators of Compare.
func comparisons() []int {
	return []int{api.TkEql, api.TkNeq, api.TkLss, api.TkLeq, api.TkGtr, api.TkGeq}
}

// expectCompare expects an answer or an error of Compare.
func expectCompare(t *testing.T, op int, a, b api.Const, want bool, wrong error) {
	t.Helper()
	if is, e := Compare(op, a, b); is != want || e != wrong {
		t.Errorf("Compare(%d, %s, %s) = %t, %v; want %t, %v", op, show(a), show(b), is, e, want, wrong)
	}
}

// P12.5: each pair by each operator, and by some that are none of Compare.
func TestCompareEveryPair(t *testing.T) {
	ops := append(comparisons(), api.TkAssign, api.TkAdd, api.TkLand, api.TkShl)
	eachPair(valid(), ops, func(op int, a, b api.Const) {
		want, wrong := compareByWords(op, a, b)
		expectCompare(t, op, a, b, want, wrong)
	})
}

// P12.5: a pair of each two kinds by all operators, and by what is none.
func TestCompareByEveryOperator(t *testing.T) {
	l := []api.Const{boolean(true), boolean(false), words("ab"), words(""), integer("-7"), letter("2"), float("2"), float("5/3")}
	eachPair(l, operators(), func(op int, a, b api.Const) {
		want, wrong := compareByWords(op, a, b)
		expectCompare(t, op, a, b, want, wrong)
	})
}

// P12.5: by the order of the two, in both directions.
func TestCompare(t *testing.T) {
	for _, c := range []struct {
		a, b  api.Const
		order int
	}{
		{words("a"), words("a"), 0}, {words(""), words(""), 0}, {words(""), words("a"), -1}, {words("a"), words("b"), -1}, {words("ab"), words("abc"), -1}, {words("b"), words("abc"), 1}, {words("a"), words("B"), 1}, {words("a"), words("a\x00"), -1},
		{words("\x7f"), words("\x80"), -1}, {words("\xff"), words("a"), 1}, {words("é"), words("z"), 1}, {words("é"), words("\xff"), -1}, {words("€"), words("é"), 1},
		{integer("1"), integer("1"), 0}, {integer("1"), letter("1"), 0}, {integer("1"), float("1"), 0}, {integer("1"), float("3/2"), -1}, {letter("2"), float("3/2"), 1}, {integer("-1"), integer("1"), -1}, {integer("-2"), integer("-1"), -1},
		{float("1/3"), float("2/5"), -1}, {float("-1/3"), float("-2/5"), 1}, {float("1/2"), float("1/3"), 1}, {float("7/2"), integer("3"), 1}, {float("7/2"), integer("4"), -1}, {float("355/113"), float("22/7"), -1}, {float("1/3"), float("1/3"), 0},
		{integer(near(512, -1)), integer(near(512, -2)), 1}, {integer(below(512, -1)), letter(near(512, -1)), -1}, {float("1/" + near(512, -1)), integer("0"), 1}, {float("1/" + near(512, -1)), float("1/" + near(512, -2)), -1},
	} {
		for _, op := range comparisons() {
			expectCompare(t, op, c.a, c.b, comparison(op, c.order), nil)
			expectCompare(t, op, c.b, c.a, comparison(op, -c.order), nil)
		}
	}
}

// P12.5: bools are equal or not, and nothing else.
func TestCompareBools(t *testing.T) {
	for _, a := range []bool{false, true} {
		for _, b := range []bool{false, true} {
			expectCompare(t, api.TkEql, boolean(a), boolean(b), a == b, nil)
			expectCompare(t, api.TkNeq, boolean(a), boolean(b), a != b, nil)
			for _, op := range comparisons()[2:] {
				expectCompare(t, op, boolean(a), boolean(b), false, api.ErrKind)
			}
		}
	}
}

// P12.5: constants that can't be compared.
func TestCompareWrongKinds(t *testing.T) {
	for _, c := range [][2]api.Const{
		{boolean(true), words("true")}, {boolean(true), integer("1")}, {boolean(false), float("0")}, {words("1"), integer("1")}, {words("a"), letter("97")}, {words(""), float("1/2")}, {words(""), boolean(false)},
	} {
		for _, op := range comparisons() {
			expectCompare(t, op, c[0], c[1], false, api.ErrKind)
			expectCompare(t, op, c[1], c[0], false, api.ErrKind)
		}
	}
}

// P12.5: a product does not fit, though the order is plain to see; another operator has ErrKind even so.
func TestCompareOver(t *testing.T) {
	for _, c := range [][2]api.Const{
		{integer(near(512, -1)), float("1/2")}, {float(near(512, -1)), float("-1/2")}, {letter(near(511, 0)), float("1/2")}, {float(near(511, 0) + "/3"), float(near(511, 0) + "/3")}, {integer(near(512, -1)), float("1/" + near(512, -1))},
		{float(near(256, 0) + "/3"), float("1/" + near(256, 0))}, {float(near(512, -1) + "/" + near(512, -2)), float(near(512, -2) + "/" + near(512, -1))},
	} {
		for _, op := range comparisons() {
			expectCompare(t, op, c[0], c[1], false, api.ErrOver)
			expectCompare(t, op, c[1], c[0], false, api.ErrOver)
		}
		expectCompare(t, api.TkAdd, c[0], c[1], false, api.ErrKind)
	}
}
