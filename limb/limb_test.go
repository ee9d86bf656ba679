package limb

import (
	"encoding/binary"
	"math"
	"math/big"
	"testing"

	"cavil/api"
)

// value is the value of a number, by the chapter's definition.
func value(a api.Int) *big.Int {
	var bytes [64]byte
	for i, w := range a.W {
		binary.BigEndian.PutUint64(bytes[56-8*i:], w)
	}
	v := new(big.Int).SetBytes(bytes[:])
	if a.Neg {
		v.Neg(v)
	}
	return v
}

// form is the one form of the number with a value that fits.
func form(v *big.Int) api.Int {
	a := api.Int{Neg: v.Sign() < 0}
	var bytes [64]byte
	v.FillBytes(bytes[:])
	for i := range a.W {
		a.W[i] = binary.BigEndian.Uint64(bytes[56-8*i:])
	}
	return a
}

// bigInt is the number with a decimal text.
func bigInt(text string) *big.Int {
	v, ok := new(big.Int).SetString(text, 10)
	if !ok {
		panic(text)
	}
	return v
}

// num is the number with a decimal text.
func num(text string) api.Int { return form(bigInt(text)) }

// power is 2^k + d.
func power(k uint, d int64) *big.Int {
	v := new(big.Int).Lsh(big.NewInt(1), k)
	return v.Add(v, big.NewInt(d))
}

// near is the number 2^k + d.
func near(k uint, d int64) api.Int { return form(power(k, d)) }

// negative is the number negated, without the help of the package.
func negative(a api.Int) api.Int {
	a.Neg = !a.Neg
	return a
}

const ones = math.MaxUint64

var (
	most   = api.Int{W: [8]uint64{ones, ones, ones, ones, ones, ones, ones, ones}}
	least  = api.Int{W: most.W, Neg: true}
	zero   = api.Int{}
	minus0 = api.Int{Neg: true}
)

// generator is a fixed sequence of words of which many are 0 or all ones, or nearly so.
type generator uint64

func (g *generator) next() uint64 {
	*g = *g*6364136223846793005 + 1442695040888963407
	return uint64(*g>>33 | *g<<31)
}

func (g *generator) word() uint64 {
	switch kind := g.next() % 12; kind {
	case 0, 1, 2:
		return 0
	case 3, 4:
		return ones
	case 5:
		return 1
	case 6:
		return 1 << 63
	case 7:
		return 1<<63 - 1
	case 8:
		return ones - g.next()%3
	case 9:
		return g.next() % 16
	}
	return g.next()
}

// number is a number of at most n words.
func (g *generator) number(n int) api.Int {
	a := api.Int{Neg: g.next()%2 == 1}
	for i := range n {
		a.W[i] = g.word()
	}
	return a
}

// magnitudes are numbers of one word, of several and of all eight, none below 0.
func magnitudes() []api.Int {
	l := []api.Int{zero, most}
	for n := range int64(8) {
		l = append(l, form(big.NewInt(n)))
	}
	for _, k := range []uint{32, 63, 64, 65, 128, 192, 256, 320, 384, 447, 448, 449, 510, 511} {
		l = append(l, near(k, -1), near(k, 0), near(k, 1))
	}
	l = append(l, near(512, -2), near(512, -3))
	// Words that are all ones, and words that are 0 between others.
	for i := range 8 {
		var only, but api.Int
		only.W[i], but.W = ones, most.W
		but.W[i] = 0
		l = append(l, only, but)
	}
	l = append(l,
		api.Int{W: [8]uint64{1, 0, 0, 0, 0, 0, 0, 1}}, api.Int{W: [8]uint64{7, 0, 5, 0, 0, 3}}, api.Int{W: [8]uint64{0, 9, 0, 9}},
		api.Int{W: [8]uint64{0, ones, 0, ones, 0, ones, 0, ones}}, api.Int{W: [8]uint64{ones, 0, ones, 0, ones, 0, ones}},
		api.Int{W: [8]uint64{0, 0, 1 << 63}}, api.Int{W: [8]uint64{ones, ones, 1 << 63}}, api.Int{W: [8]uint64{0, ones - 1, 1 << 63}})
	for _, k := range []int64{1, 19, 20, 38, 77, 153, 154} {
		ten := new(big.Int).Exp(big.NewInt(10), big.NewInt(k), nil)
		l = append(l, form(new(big.Int).Sub(ten, big.NewInt(1))), form(ten), form(new(big.Int).Add(ten, big.NewInt(1))))
	}
	g := generator(1)
	for i := range 32 {
		a := g.number(1 + i%8)
		a.Neg = false
		l = append(l, a)
	}
	return l
}

// numbers are numbers of either sign, and 0 with Neg true.
func numbers() []api.Int {
	var l []api.Int
	for _, a := range magnitudes() {
		l = append(l, a, negative(a))
	}
	return l
}

// expect expects the number with the value want, in its one form; ErrOver alone, if that does not fit.
func expect(t *testing.T, call string, a, b, got api.Int, e error, want *big.Int) {
	t.Helper()
	switch {
	case want.BitLen() > 512:
		if e != api.ErrOver || got != zero {
			t.Errorf("%s(%v, %v) = %v, %v; want no number and ErrOver", call, value(a), value(b), got, e)
		}
	case e != nil || got != form(want):
		t.Errorf("%s(%v, %v) = %v %v, %v; want %v", call, value(a), value(b), got.Neg, value(got), e, want)
	}
}

// expectNumber expects a number and no error.
func expectNumber(t *testing.T, got api.Int, e error, want api.Int) {
	t.Helper()
	if e != nil || got != want {
		t.Errorf("%v %v, error %v; want %v %v", got.Neg, value(got), e, want.Neg, value(want))
	}
}

// expectError expects an error, alone, and nothing beside it.
func expectError(t *testing.T, got api.Int, e error, want api.Errno) {
	t.Helper()
	if e != want || got != zero {
		t.Errorf("%v, error %v; want no number and the error %v", got, e, want)
	}
}

// P7.1
func TestOf(t *testing.T) {
	for _, n := range []int64{0, 1, -1, 2, -2, 10, -10, 1 << 31, -1 << 31, 1 << 32, -1 << 32, 1<<53 + 1, math.MaxInt64 - 1, math.MaxInt64, math.MinInt64 + 1, math.MinInt64} {
		if got := Of(n); got != form(big.NewInt(n)) {
			t.Errorf("Of(%d) = %v", n, got)
		}
	}
	if got := Of(math.MinInt64); got != (api.Int{Neg: true, W: [8]uint64{1 << 63}}) {
		t.Errorf("Of(%d) = %v", math.MinInt64, got)
	}
	if got := Of(-5); got != (api.Int{Neg: true, W: [8]uint64{5}}) {
		t.Errorf("Of(-5) = %v", got)
	}
}

// P7.1
func TestCanon(t *testing.T) {
	if got := Canon(minus0); got != zero {
		t.Errorf("Canon of 0 with Neg true = %v", got)
	}
	for _, a := range numbers() {
		if got := Canon(a); got != form(value(a)) {
			t.Errorf("Canon(%v) = %v", a, got)
		}
	}
}

// P7.1
func TestBits(t *testing.T) {
	for _, c := range []struct {
		a    api.Int
		bits int
	}{
		{zero, 0}, {minus0, 0}, {Of(1), 1}, {Of(-1), 1}, {Of(2), 2}, {Of(3), 2}, {Of(4), 3}, {Of(-4), 3},
		{Of(math.MaxInt64), 63}, {Of(math.MinInt64), 64}, {near(64, -1), 64}, {near(64, 0), 65}, {near(448, -1), 448}, {near(448, 0), 449},
		{near(511, -1), 511}, {near(511, 0), 512}, {most, 512}, {least, 512}, {api.Int{W: [8]uint64{0, 0, 0, 1}}, 193},
	} {
		if got := Bits(c.a); got != c.bits {
			t.Errorf("Bits(%v) = %d; want %d", value(c.a), got, c.bits)
		}
	}
	for _, a := range numbers() {
		if got := Bits(a); got != value(a).BitLen() {
			t.Errorf("Bits(%v) = %d", value(a), got)
		}
	}
}

// P7.1: every pair.
func TestCmp(t *testing.T) {
	all := numbers()
	for _, a := range all {
		for _, b := range all {
			if got := Cmp(a, b); got != value(a).Cmp(value(b)) {
				t.Errorf("Cmp(%v, %v) = %d", value(a), value(b), got)
			}
		}
	}
}

// P7.1: 0 is one number, whatever its sign is; the highest word that differs counts.
func TestCmpEdges(t *testing.T) {
	for _, c := range []struct {
		a, b api.Int
		want int
	}{
		{zero, minus0, 0}, {minus0, zero, 0}, {minus0, minus0, 0}, {minus0, Of(1), -1}, {minus0, Of(-1), 1}, {Of(1), minus0, 1}, {Of(-1), minus0, -1},
		{Of(-1), Of(1), -1}, {Of(1), Of(-1), 1}, {Of(-2), Of(-1), -1}, {Of(-1), Of(-2), 1}, {Of(-2), Of(1), -1},
		{least, most, -1}, {most, least, 1}, {most, most, 0}, {least, least, 0}, {least, near(511, 0), -1},
		{api.Int{W: [8]uint64{ones, 1}}, api.Int{W: [8]uint64{0, 2}}, -1}, {api.Int{W: [8]uint64{2, 1}}, api.Int{W: [8]uint64{1, 1}}, 1},
		{near(511, 0), near(511, -1), 1}, {negative(near(511, 0)), negative(near(511, -1)), -1},
	} {
		if got := Cmp(c.a, c.b); got != c.want {
			t.Errorf("Cmp(%v, %v) = %d; want %d", value(c.a), value(c.b), got, c.want)
		}
	}
}

// P7.1
func TestNeg(t *testing.T) {
	for _, a := range numbers() {
		if got := Neg(a); got != form(new(big.Int).Neg(value(a))) {
			t.Errorf("Neg(%v) = %v", a, got)
		}
	}
	if Neg(zero) != zero || Neg(minus0) != zero || Neg(most) != least || Neg(least) != most || Neg(Of(1)) != Of(-1) {
		t.Error("Neg of 0, of 1 or of the greatest numbers")
	}
}

// P7.1
func TestInt64(t *testing.T) {
	for _, a := range append(numbers(),
		near(63, -2), near(63, -1), near(63, 0), near(63, 1), negative(near(63, -1)), negative(near(63, 0)), negative(near(63, 1)),
		near(64, 0), negative(near(64, 0)), near(64, 1), api.Int{W: [8]uint64{5, 0, 0, 0, 0, 0, 0, 1}}, api.Int{W: [8]uint64{5, 1}}) {
		n, e := Int64(a)
		switch v := value(a); {
		case v.IsInt64() && (n != v.Int64() || e != nil):
			t.Errorf("Int64(%v) = %d, %v", v, n, e)
		case !v.IsInt64() && (n != 0 || e != api.ErrOver):
			t.Errorf("Int64(%v) = %d, %v; want ErrOver", v, n, e)
		}
	}
}

// P7.1: the numbers next to the largest and the smallest int64.
func TestInt64Edges(t *testing.T) {
	for text, want := range map[string]int64{
		"0": 0, "1": 1, "-1": -1, "9223372036854775806": math.MaxInt64 - 1, "9223372036854775807": math.MaxInt64,
		"-9223372036854775807": math.MinInt64 + 1, "-9223372036854775808": math.MinInt64,
	} {
		if n, e := Int64(num(text)); n != want || e != nil {
			t.Errorf("Int64(%s) = %d, %v", text, n, e)
		}
		if Of(want) != num(text) {
			t.Errorf("Of(%d) is not %s", want, text)
		}
	}
	for _, text := range []string{"9223372036854775808", "9223372036854775809", "-9223372036854775809", "-9223372036854775810", "18446744073709551615", "18446744073709551616", "-18446744073709551616", "18446744073709551617"} {
		if n, e := Int64(num(text)); n != 0 || e != api.ErrOver {
			t.Errorf("Int64(%s) = %d, %v; want ErrOver", text, n, e)
		}
	}
	if n, e := Int64(minus0); n != 0 || e != nil {
		t.Errorf("Int64 of 0 with Neg true = %d, %v", n, e)
	}
}
