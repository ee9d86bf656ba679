package limb

import (
	"math"
	"math/big"
	"testing"

	"cavil/api"
)

// P7.3
func TestBitOperations(t *testing.T) {
	for _, c := range []struct{ a, b, and, or, xor, andNot string }{
		{"-1", "6", "6", "-1", "-7", "-7"}, {"6", "-1", "6", "-1", "-7", "0"}, {"-4", "7", "4", "-1", "-5", "-8"}, {"7", "-4", "4", "-1", "-5", "3"},
		{"-4", "1", "0", "-3", "-3", "-4"}, {"-1", "5", "5", "-1", "-6", "-6"}, {"7", "2", "2", "7", "5", "5"}, {"-6", "-10", "-14", "-2", "12", "8"},
		{"0", "0", "0", "0", "0", "0"}, {"0", "-1", "0", "-1", "-1", "0"}, {"-1", "0", "0", "-1", "-1", "-1"}, {"-1", "-1", "-1", "-1", "0", "0"},
		{"-18446744073709551616", "-1", "-18446744073709551616", "-1", "18446744073709551615", "0"},
		{"-18446744073709551616", "18446744073709551615", "0", "-1", "-1", "-18446744073709551616"},
		{"-18446744073709551615", "-18446744073709551615", "-18446744073709551615", "-18446744073709551615", "0", "0"},
		{"-18446744073709551615", "-2", "-18446744073709551616", "-1", "18446744073709551615", "1"},
	} {
		want := map[string]string{"And": c.and, "Or": c.or, "Xor": c.xor, "AndNot": c.andNot}
		for name, call := range calls() {
			if want[name] == "" {
				continue
			}
			if got, e := call(num(c.a), num(c.b)); e != nil || got != num(want[name]) {
				t.Errorf("%s(%s, %s) = %v, %v; want %s", name, c.a, c.b, value(got), e, want[name])
			}
		}
	}
}

// bit is the bit of a number at a place of its infinite two's complement: of -n the bits of n - 1 are turned.
func bit(v *big.Int, at int) uint {
	if v.Sign() >= 0 {
		return v.Bit(at)
	}
	n := new(big.Int).Neg(v)
	return 1 - n.Sub(n, big.NewInt(1)).Bit(at)
}

// P7.3: bit by bit, beyond the words too.
func TestBitByBit(t *testing.T) {
	tables := map[string][2][2]uint{"And": {{0, 0}, {0, 1}}, "Or": {{0, 1}, {1, 1}}, "Xor": {{0, 1}, {1, 0}}, "AndNot": {{0, 0}, {1, 0}}}
	g := generator(3)
	for i := range 300 {
		a, b := g.number(1+i%8), g.number(1+i/8%8)
		for name, table := range tables {
			got, e := calls()[name](a, b)
			if e != nil {
				// Only -2^512 does not fit: a test of its own.
				continue
			}
			for at := range 600 {
				if bit(value(got), at) != table[bit(value(a), at)][bit(value(b), at)] {
					t.Fatalf("%s(%v, %v) = %v: bit %d", name, value(a), value(b), value(got), at)
				}
			}
		}
	}
}

// P7.3: 0 with Neg true is 0, not a number with 1 in all bits.
func TestBitOperationsOfZero(t *testing.T) {
	for _, a := range numbers() {
		for name, call := range calls() {
			for _, c := range [][2]api.Int{{a, minus0}, {minus0, a}} {
				plain := [2]api.Int{Canon(c[0]), Canon(c[1])}
				got, e := call(c[0], c[1])
				want, f := call(plain[0], plain[1])
				if got != want || e != nil || f != nil {
					t.Errorf("%s(%v, %v) = %v, %v; want %v", name, c[0], c[1], got, e, want)
				}
			}
		}
	}
}

// P7.3: the one result that does not fit is -2^512.
func TestBitOperationsOver(t *testing.T) {
	low := near(512, -2)
	for _, c := range []struct {
		name string
		a, b api.Int
	}{
		{"And", least, negative(low)}, {"And", negative(low), least}, {"And", least, negative(near(511, 0))}, {"And", least, Of(-2)},
		{"Xor", least, Of(1)}, {"Xor", Of(1), least}, {"Xor", negative(low), Of(2)}, {"Xor", most, Of(-1)}, {"Xor", Of(-1), most},
		{"Xor", negative(near(511, 0)), near(511, 0)},
		{"AndNot", least, Of(1)}, {"AndNot", least, most}, {"AndNot", negative(low), most}, {"AndNot", negative(low), Of(2)}, {"AndNot", Of(-1), most},
	} {
		got, e := calls()[c.name](c.a, c.b)
		expectError(t, got, e, api.ErrOver)
	}
}

// P7.3: the largest and the smallest number with themselves, with each other and with those next to them.
func TestBitOperationsAtTheLimit(t *testing.T) {
	for _, c := range []struct {
		name       string
		a, b, want api.Int
	}{
		{"And", least, least, least}, {"Or", least, least, least}, {"Xor", least, least, zero}, {"AndNot", least, least, zero},
		{"And", least, most, Of(1)}, {"Or", least, most, Of(-1)}, {"Xor", least, most, Of(-2)}, {"AndNot", most, least, near(512, -2)},
		{"And", most, most, most}, {"Or", most, most, most}, {"Xor", most, most, zero}, {"AndNot", most, most, zero},
		{"And", least, Of(1), Of(1)}, {"Or", least, Of(1), least}, {"Xor", least, Of(-1), near(512, -2)}, {"AndNot", least, Of(-1), zero},
		{"And", least, Of(-1), least}, {"Or", negative(near(512, -2)), Of(1), negative(near(512, -3))}, {"Xor", negative(near(512, -2)), Of(3), least},
		{"And", most, Of(-1), most}, {"AndNot", most, Of(-1), zero}, {"AndNot", Of(-1), near(512, -2), least}, {"Xor", near(512, -2), Of(-1), least},
	} {
		got, e := calls()[c.name](c.a, c.b)
		expectNumber(t, got, e, c.want)
	}
}

// places are the numbers of bits by which numbers are shifted.
func places() []int {
	l := []int{575, 576, 577, 599, 600, 601, 1023, 1024, 1 << 16, math.MaxInt32, math.MaxInt32 + 1, 1 << 32, 1<<32 + 1, 1 << 62, math.MaxInt - 1, math.MaxInt}
	for n := range 520 {
		l = append(l, n)
	}
	return l
}

// P7.4: every number by every number of places.
func TestShifts(t *testing.T) {
	for _, a := range numbers() {
		v := value(a)
		for _, n := range places() {
			left, e := Shl(a, n)
			switch {
			case n < 2000:
				expect(t, "Shl", a, Of(int64(n)), left, e, new(big.Int).Lsh(v, uint(n)))
			case v.Sign() == 0:
				expectNumber(t, left, e, zero)
			default:
				expectError(t, left, e, api.ErrOver)
			}
			right, e := Shr(a, n)
			expect(t, "Shr", a, Of(int64(n)), right, e, new(big.Int).Rsh(v, uint(n)))
		}
	}
}

// P7.4
func TestShl(t *testing.T) {
	for _, c := range []struct {
		a    string
		n    int
		want string
	}{
		{"1", 0, "1"}, {"1", 1, "2"}, {"-1", 1, "-2"}, {"-3", 70, "-3541774862152233910272"}, {"5", 64, "92233720368547758080"}, {"0", math.MaxInt, "0"}, {"-1", 63, "-9223372036854775808"},
	} {
		got, e := Shl(num(c.a), c.n)
		expectNumber(t, got, e, num(c.want))
	}
	// They just fit, and just do not.
	for k := range 512 {
		for _, a := range []api.Int{near(uint(k), 0), negative(near(uint(k), 0)), form(power(uint(k)+1, -1))} {
			got, e := Shl(a, 511-k)
			expectNumber(t, got, e, form(new(big.Int).Lsh(value(a), uint(511-k))))
			got, e = Shl(a, 512-k)
			expectError(t, got, e, api.ErrOver)
		}
	}
	for _, a := range []api.Int{Of(1), Of(-1), most, least} {
		for _, n := range []int{512, 513, 576, 600, 1 << 32, math.MaxInt} {
			got, e := Shl(a, n)
			expectError(t, got, e, api.ErrOver)
		}
	}
}

// P7.4: rounded toward negative infinity.
func TestShr(t *testing.T) {
	for _, c := range []struct {
		a    string
		n    int
		want string
	}{
		{"-7", 1, "-4"}, {"7", 1, "3"}, {"-8", 1, "-4"}, {"8", 1, "4"}, {"-9", 2, "-3"}, {"-9", 600, "-1"}, {"9", 600, "0"}, {"-1", 0, "-1"}, {"-1", 1, "-1"},
		{"-1", 63, "-1"}, {"-1", 64, "-1"}, {"-1", 65, "-1"}, {"-1", 511, "-1"}, {"-1", 512, "-1"}, {"-1", math.MaxInt, "-1"}, {"1", math.MaxInt, "0"}, {"0", math.MaxInt, "0"},
		{"-18446744073709551616", 64, "-1"}, {"-18446744073709551617", 64, "-2"}, {"-18446744073709551615", 64, "-1"},
		{"-18446744073709551616", 63, "-2"}, {"-18446744073709551616", 65, "-1"}, {"18446744073709551616", 64, "1"}, {"18446744073709551615", 64, "0"},
	} {
		got, e := Shr(num(c.a), c.n)
		expectNumber(t, got, e, num(c.want))
	}
	for n := range 512 {
		got, e := Shr(most, n)
		expectNumber(t, got, e, form(power(uint(512-n), -1)))
		got, e = Shr(negative(near(511, 0)), n)
		expectNumber(t, got, e, negative(near(uint(511-n), 0)))
	}
	got, e := Shr(least, 0)
	expectNumber(t, got, e, least)
	got, e = Shr(least, 1)
	expectNumber(t, got, e, negative(near(511, 0)))
}

// P7.4: 0 has one form, however far and with whatever sign it is shifted.
func TestShiftsOfZero(t *testing.T) {
	for _, n := range places() {
		for _, a := range []api.Int{zero, minus0} {
			got, e := Shl(a, n)
			expectNumber(t, got, e, zero)
			got, e = Shr(a, n)
			expectNumber(t, got, e, zero)
		}
	}
}

// P7.4: a negative number of places, even of 0 and of what would not fit.
func TestShiftsByNegative(t *testing.T) {
	for _, a := range numbers() {
		for _, n := range []int{-1, -2, -63, -64, -65, -512, math.MinInt32, math.MinInt + 1, math.MinInt} {
			got, e := Shl(a, n)
			expectError(t, got, e, api.ErrArg)
			got, e = Shr(a, n)
			expectError(t, got, e, api.ErrArg)
		}
	}
}
