package konst

import (
	"strings"

	"cavil/api"
	"cavil/limb"
	"cavil/ratio"
)

// classOf returns the class of a kind of constants; 0 if it is none.
func classOf(kind int) int {
	switch kind {
	case api.CkBool:
		return api.ClBool
	case api.CkString:
		return api.ClString
	case api.CkInt, api.CkRune:
		return api.ClInt
	case api.CkFloat:
		return api.ClFloat
	}
	return 0
}

// class returns the class that constants have together: that of floats for numbers of which some are floats; 0 if they don't go together.
func class(l ...api.Const) int {
	all := 0
	for _, c := range l {
		all |= classOf(c.Kind)
	}
	switch all {
	case api.ClBool, api.ClString, api.ClInt, api.ClFloat:
		return all
	case api.ClNumber:
		return api.ClFloat
	}
	return 0
}

// checkClass returns the error of Check for the first constant that has one, or ErrKind unless the constants together are of one of the classes.
func checkClass(classes int, l ...api.Const) error {
	for _, c := range l {
		if e := Check(c); e != nil {
			return e
		}
	}
	if classes&class(l...) == 0 {
		return api.ErrKind
	}
	return nil
}

// unaryClasses returns the classes that a unary operator applies to.
func unaryClasses(op int) (classes int) {
	switch op {
	case api.TkNot:
		return api.ClBool
	case api.TkAdd, api.TkSub:
		classes |= api.ClFloat
		fallthrough
	case api.TkXor:
		classes |= api.ClInt
	}
	return classes
}

// binaryClasses returns the classes that a binary operator applies to; it is no shift and no comparison.
func binaryClasses(op int) (classes int) {
	switch op {
	case api.TkLand, api.TkLor:
		return api.ClBool
	case api.TkAdd:
		classes |= api.ClString
		fallthrough
	case api.TkSub, api.TkMul, api.TkQuo:
		classes |= api.ClFloat
		fallthrough
	case api.TkRem, api.TkAnd, api.TkOr, api.TkXor, api.TkAndNot:
		classes |= api.ClInt
	}
	return classes
}

// shiftClasses returns the classes that a shift applies to.
func shiftClasses(op int) int {
	if op == api.TkShl || op == api.TkShr {
		return api.ClNumber
	}
	return 0
}

// compareClasses returns the classes that a comparison applies to.
func compareClasses(op int) (classes int) {
	switch op {
	case api.TkEql, api.TkNeq:
		classes |= api.ClBool
		fallthrough
	case api.TkLss, api.TkLeq, api.TkGtr, api.TkGeq:
		classes |= api.ClOrdered
	}
	return classes
}

// connect returns a && b or a || b.
func connect(op int, a, b bool) bool {
	if op == api.TkLand {
		return a && b
	}
	return a || b
}

// combine returns what a binary operator makes of two numbers.
func combine(op int, a, b api.Const) (api.Rat, error) {
	if class(a, b) == api.ClFloat {
		return ratioOperator(op)(a.R, b.R)
	}
	n, e := limbOperator(op)(a.R.N, b.R.N)
	if e != nil {
		return api.Rat{}, e
	}
	return whole(n), nil
}

// ratioOperator returns a binary operator of floats.
func ratioOperator(op int) func(a, b api.Rat) (api.Rat, error) {
	switch op {
	case api.TkAdd:
		return ratio.Add
	case api.TkSub:
		return ratio.Sub
	case api.TkMul:
		return ratio.Mul
	}
	return ratio.Quo
}

// limbOperator returns a binary operator of whole numbers.
func limbOperator(op int) func(a, b api.Int) (api.Int, error) {
	switch op {
	case api.TkAdd:
		return limb.Add
	case api.TkSub:
		return limb.Sub
	case api.TkMul:
		return limb.Mul
	case api.TkQuo:
		return quotient
	case api.TkRem:
		return remainder
	case api.TkAnd:
		return limb.And
	case api.TkOr:
		return limb.Or
	case api.TkXor:
		return limb.Xor
	}
	return limb.AndNot
}

// quotient returns a / b, truncated toward zero.
func quotient(a, b api.Int) (api.Int, error) {
	q, _, e := limb.Div(a, b)
	return q, e
}

// remainder returns what quotient leaves.
func remainder(a, b api.Int) (api.Int, error) {
	_, r, e := limb.Div(a, b)
	return r, e
}

// shiftCount returns the number n as the count of a shift, and whether it can be one.
func shiftCount(n api.Const) (count int, ok bool) {
	v, e := limb.Int64(n.R.N)
	return int(v), e == nil && ratio.Whole(n.R) && v >= 0 && v <= maxShift
}

// order returns 0 if a and b are equal, and else, unless they are bools, -1 if a is less than b, and 1 if it is greater.
func order(a, b api.Const) (int, error) {
	switch {
	case class(a, b)&api.ClNumber != 0:
		return ratio.Cmp(a.R, b.R)
	case a == b:
		return 0, nil
	case a.Kind == api.CkString:
		return strings.Compare(a.S, b.S), nil
	}
	// Bools have no order: being different is all that is asked of them.
	return 1, nil
}

// holds reports whether a comparison holds of two constants with this order.
func holds(op, sign int) bool {
	switch op {
	case api.TkEql:
		return sign == 0
	case api.TkNeq:
		return sign != 0
	case api.TkLss:
		return sign < 0
	case api.TkLeq:
		return sign <= 0
	case api.TkGtr:
		return sign > 0
	}
	return sign >= 0
}
