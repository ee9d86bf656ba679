package konst

import (
	"errors"
	"math"

	"cavil/api"
	"cavil/limb"
	"cavil/utf"
)

// replacement is the rune in the place of a number that is no rune.
const replacement = 0xfffd

// interval is the numbers from least to greatest.
type interval struct {
	least    int64
	greatest uint64
}

// ranges are the values of the integer types, by the type.
var ranges = [...]interval{
	api.BkInt:    {math.MinInt64, math.MaxInt64},
	api.BkInt8:   {math.MinInt8, math.MaxInt8},
	api.BkInt32:  {math.MinInt32, math.MaxInt32},
	api.BkInt64:  {math.MinInt64, math.MaxInt64},
	api.BkUint:   {0, math.MaxUint64},
	api.BkUint8:  {0, math.MaxUint8},
	api.BkUint32: {0, math.MaxUint32},
	api.BkUint64: {0, math.MaxUint64},
}

// last returns the greatest number of the interval.
func (i interval) last() api.Int {
	return api.Int{W: [api.Words]uint64{i.greatest}}
}

// contains reports whether n lies in the interval.
func (i interval) contains(n api.Int) bool {
	return limb.Cmp(n, limb.Of(i.least)) >= 0 && limb.Cmp(n, i.last()) <= 0
}

// isInteger reports whether a basic type is an integer type.
func isInteger(basic int) bool {
	return basic >= api.BkInt && basic <= api.BkUint64
}

// isUnsigned reports whether a basic type is an integer type without negative numbers.
func isUnsigned(basic int) bool {
	return isInteger(basic) && ranges[basic].least == 0
}

// kindIn returns the kind that the constants of a basic type have; 0 if it has none.
func kindIn(basic int) int {
	switch basic {
	case api.BkBool, api.UntypedBool:
		return api.CkBool
	case api.BkString, api.UntypedString:
		return api.CkString
	case api.UntypedInt:
		return api.CkInt
	case api.UntypedRune:
		return api.CkRune
	case api.BkFloat64, api.UntypedFloat:
		return api.CkFloat
	}
	if isInteger(basic) {
		return api.CkInt
	}
	return 0
}

// convertible returns the classes of the constants that a kind may hold the values of: to a kind of numbers, any number may be converted.
func convertible(kind int) int {
	classes := classOf(kind)
	if classes&api.ClNumber != 0 {
		return api.ClNumber
	}
	return classes
}

// encoding returns the encoding of the rune n, or that of the replacement if n is not a rune.
func encoding(n api.Int) string {
	v, e := limb.Int64(n)
	b, wrong := utf.Encode(rune(v))
	// What is left of a number that is cut off may be a rune.
	if e != nil || int64(rune(v)) != v || errors.Is(wrong, api.ErrRange) {
		b, _ = utf.Encode(replacement)
	}
	return string(b)
}
