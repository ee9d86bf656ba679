package limb

import (
	"math"
	"math/big"
	"testing"

	"cavil/api"
)

// calls are the calls that make one number of two.
func calls() map[string]func(a, b api.Int) (api.Int, error) {
	return map[string]func(a, b api.Int) (api.Int, error){"Add": Add, "Sub": Sub, "Mul": Mul, "And": And, "Or": Or, "Xor": Xor, "AndNot": AndNot}
}

// exact are the same calls for numbers without bounds.
func exact() map[string]func(a, b *big.Int) *big.Int {
	made := func(f func(z, a, b *big.Int) *big.Int) func(a, b *big.Int) *big.Int {
		return func(a, b *big.Int) *big.Int { return f(new(big.Int), a, b) }
	}
	return map[string]func(a, b *big.Int) *big.Int{
		"Add": made((*big.Int).Add), "Sub": made((*big.Int).Sub), "Mul": made((*big.Int).Mul),
		"And": made((*big.Int).And), "Or": made((*big.Int).Or), "Xor": made((*big.Int).Xor), "AndNot": made((*big.Int).AndNot),
	}
}

// expectPair sends two numbers through each call.
func expectPair(t *testing.T, a, b api.Int) {
	t.Helper()
	x, y := value(a), value(b)
	want := exact()
	for name, call := range calls() {
		got, e := call(a, b)
		expect(t, name, a, b, got, e, want[name](x, y))
	}
	expectDiv(t, a, b)
	expect(t, "Gcd", a, b, Gcd(a, b), nil, new(big.Int).GCD(nil, nil, new(big.Int).Abs(x), new(big.Int).Abs(y)))
}

// expectDiv expects what P7.2 and P7.6 say of Div.
func expectDiv(t *testing.T, a, b api.Int) {
	t.Helper()
	q, r, e := Div(a, b)
	x, y := value(a), value(b)
	if y.Sign() == 0 {
		if q != zero || r != zero || e != api.ErrZero {
			t.Errorf("Div(%v, %v) = %v, %v, %v; want ErrZero", x, y, q, r, e)
		}
		return
	}
	quotient, rest := new(big.Int).QuoRem(x, y, new(big.Int))
	expect(t, "Div", a, b, q, e, quotient)
	expect(t, "Div", a, b, r, e, rest)
	back := new(big.Int).Mul(value(q), y)
	if back.Add(back, value(r)).Cmp(x) != 0 || value(r).CmpAbs(y) >= 0 {
		t.Errorf("Div(%v, %v) = %v, %v: not q * b + r with a small r", x, y, value(q), value(r))
	}
}

// P7.2, P7.3, P7.6: each pair through each call.
func TestEveryPair(t *testing.T) {
	all := numbers()
	for _, a := range all {
		for _, b := range all {
			expectPair(t, a, b)
		}
	}
}

// P7.2, P7.3: small numbers, by Go's own arithmetic.
func TestEverySmallPair(t *testing.T) {
	same := func(name string, a, b int64, got api.Int, e error, want int64) {
		if e != nil || got != Of(want) {
			t.Errorf("%s(%d, %d) = %v, %v; want %d", name, a, b, got, e, want)
		}
	}
	for a := int64(-40); a <= 40; a++ {
		for b := int64(-40); b <= 40; b++ {
			want := map[string]int64{"Add": a + b, "Sub": a - b, "Mul": a * b, "And": a & b, "Or": a | b, "Xor": a ^ b, "AndNot": a &^ b}
			for name, call := range calls() {
				got, e := call(Of(a), Of(b))
				same(name, a, b, got, e, want[name])
			}
			if b != 0 {
				q, r, e := Div(Of(a), Of(b))
				same("Div", a, b, q, e, a/b)
				same("Div", a, b, r, e, a%b)
			}
		}
	}
}

// P7.2, P7.3, P7.6: pairs of more numbers, of all lengths.
func TestManyPairs(t *testing.T) {
	g := generator(7)
	for i := range 20000 {
		expectPair(t, g.number(1+i%8), g.number(1+i/8%8))
	}
}

// P7.2: all pairs of numbers of three words that are 0, 1, all ones, or next to half of that: the guesses of a quotient are wrong in every way there.
func TestDivGuesses(t *testing.T) {
	edge := []uint64{0, 1, 1<<63 - 1, 1 << 63, 1<<63 + 1, ones - 1, ones}
	var l []api.Int
	for _, x := range edge {
		for _, y := range edge {
			for _, z := range edge {
				l = append(l, api.Int{W: [8]uint64{x, y, z}})
			}
		}
	}
	for _, a := range l {
		for _, b := range l {
			expectDiv(t, a, b)
			a.W[3], b.W = a.W[0], [8]uint64{b.W[1], b.W[2]}
			expectDiv(t, a, b)
		}
	}
}

// P7.2: the guess of a quotient's word is 1 too great, is 2 too great, does not fit a word, or neither fits nor is right.
func TestDivGuessTooGreat(t *testing.T) {
	for _, c := range [][2][8]uint64{
		{{0, 1 << 63, 7}, {4, 1 << 63}}, {{0, 0, 0, 1 << 63, 1}, {1, 0, 0, 1 << 63}},
		{{ones, 0, 0, 1<<63 - 1}, {ones, ones, 1 << 63}}, {{ones - 1, ones, 1<<63 - 1}, {1<<63 + 9, 1<<63 + 17}},
		{{2, 0, ones}, {ones, ones}}, {{0, 0, 0, 0, 0, 0, 0, ones}, {ones, ones, ones, ones, ones, ones, ones}},
		{{0, 0, 0, 1 << 63}, {ones, ones, 1 << 63}}, {{0, 0, 0, 0, 0, 1 << 63}, {1 << 63, 0, 0, 1<<63 + 1, 1 << 63}},
	} {
		expectDiv(t, api.Int{W: c[0]}, api.Int{W: c[1]})
	}
}

// P7.2
func TestAddSub(t *testing.T) {
	expectSum := func(a, b, sum api.Int) {
		t.Helper()
		for _, c := range [][2]api.Int{{a, b}, {b, a}} {
			got, e := Add(c[0], c[1])
			expectNumber(t, got, e, sum)
			got, e = Sub(c[0], negative(c[1]))
			expectNumber(t, got, e, sum)
			got, e = Add(negative(c[0]), negative(c[1]))
			expectNumber(t, got, e, form(value(negative(sum))))
		}
	}
	expectSum(num("2"), num("3"), num("5"))
	expectSum(num("2"), num("-3"), num("-1"))
	expectSum(num("123456789012345678901234567890"), num("-987654321098765432109876543210"), num("-864197532086419753208641975320"))
	expectSum(zero, zero, zero)
	expectSum(minus0, zero, zero)
	expectSum(minus0, minus0, zero)
	expectSum(minus0, Of(5), Of(5))
	expectSum(minus0, Of(-5), Of(-5))
	expectSum(Of(1), Of(-1), zero)
	expectSum(most, least, zero)
	// Carries and borrows through the words.
	for k := uint(64); k < 512; k += 64 {
		expectSum(near(k, -1), Of(1), near(k, 0))
		expectSum(near(k, 0), Of(-1), near(k, -1))
		expectSum(near(k, -1), near(k, -1), form(new(big.Int).Mul(big.NewInt(2), power(k, -1))))
	}
	expectSum(most, Of(-1), near(512, -2))
	expectSum(most, negative(near(511, 0)), near(511, -1))
	// They just fit.
	expectSum(near(511, 0), near(511, -1), most)
	expectSum(near(512, -2), Of(1), most)
	expectSum(most, zero, most)
	expectSum(most, minus0, most)
}

// P7.2: they just do not fit.
func TestAddSubOver(t *testing.T) {
	for _, c := range [][2]api.Int{{most, Of(1)}, {near(511, 0), near(511, 0)}, {most, most}, {near(512, -2), Of(2)}, {near(448, 0), form(new(big.Int).Sub(power(512, 0), power(448, 0)))}} {
		for _, c := range [][2]api.Int{c, {c[1], c[0]}} {
			for _, c := range [][2]api.Int{c, {negative(c[0]), negative(c[1])}} {
				got, e := Add(c[0], c[1])
				expectError(t, got, e, api.ErrOver)
				got, e = Sub(c[0], negative(c[1]))
				expectError(t, got, e, api.ErrOver)
			}
		}
	}
}

// P7.2
func TestMul(t *testing.T) {
	expectProduct := func(a, b, product api.Int) {
		t.Helper()
		for _, c := range [][2]api.Int{{a, b}, {b, a}, {negative(a), negative(b)}} {
			got, e := Mul(c[0], c[1])
			expectNumber(t, got, e, product)
		}
		got, e := Mul(negative(a), b)
		expectNumber(t, got, e, form(value(negative(product))))
	}
	expectProduct(num("6"), num("7"), num("42"))
	expectProduct(num("123456789012345678901234567890"), num("-987654321098765432109876543210"), num("-121932631137021795226185032733622923332237463801111263526900"))
	for _, a := range []api.Int{zero, minus0, Of(1), Of(-7), near(64, 0), most, least} {
		expectProduct(a, zero, zero)
		expectProduct(a, minus0, zero)
		expectProduct(a, Of(1), form(value(a)))
		expectProduct(a, Of(-1), form(new(big.Int).Neg(value(a))))
	}
	expectProduct(near(64, -1), near(64, -1), form(new(big.Int).Sub(power(128, 1), power(65, 0))))
	expectProduct(near(256, -1), near(256, -1), form(new(big.Int).Sub(power(512, 1), power(257, 0))))
	// They just fit.
	expectProduct(near(511, -1), Of(2), near(512, -2))
	expectProduct(near(256, -1), near(256, 1), most)
	expectProduct(near(255, 0), near(256, 0), near(511, 0))
	expectProduct(near(447, 0), near(64, 0), near(511, 0))
}

// P7.2: they just do not fit, or by far.
func TestMulOver(t *testing.T) {
	for _, c := range [][2]api.Int{
		{near(511, 0), Of(2)}, {near(256, 0), near(256, 0)}, {near(448, 0), near(64, 0)}, {near(511, 0), near(511, 0)},
		{most, Of(2)}, {most, most}, {near(64, 0), near(448, 1)}, {near(256, 1), near(256, 0)},
	} {
		for _, c := range [][2]api.Int{c, {c[1], c[0]}, {negative(c[0]), c[1]}, {c[0], negative(c[1])}, {negative(c[0]), negative(c[1])}} {
			got, e := Mul(c[0], c[1])
			expectError(t, got, e, api.ErrOver)
		}
	}
}

// P7.2: the quotient is truncated, and the remainder has the sign of a.
func TestDiv(t *testing.T) {
	for _, c := range []struct{ a, b, q, r string }{
		{"7", "2", "3", "1"}, {"-7", "2", "-3", "-1"}, {"7", "-2", "-3", "1"}, {"-7", "-2", "3", "-1"},
		{"6", "2", "3", "0"}, {"-6", "2", "-3", "0"}, {"6", "-2", "-3", "0"}, {"-6", "-2", "3", "0"},
		{"1", "2", "0", "1"}, {"-1", "2", "0", "-1"}, {"1", "-2", "0", "1"}, {"-1", "-2", "0", "-1"},
		{"0", "5", "0", "0"}, {"0", "-5", "0", "0"},
		{"-987654321098765432109876543210", "123456789012345678901234567890", "-8", "-9000000000900000000090"},
		{"18446744073709551616", "18446744073709551615", "1", "1"}, {"18446744073709551615", "18446744073709551616", "0", "18446744073709551615"},
	} {
		q, r, e := Div(num(c.a), num(c.b))
		if e != nil || q != num(c.q) || r != num(c.r) {
			t.Errorf("Div(%s, %s) = %v, %v, %v; want %s, %s", c.a, c.b, value(q), value(r), e, c.q, c.r)
		}
	}
}

// P7.2: a divisor that is the dividend, one more or one less, and one that is larger; a quotient of one word and of eight.
func TestDivEdges(t *testing.T) {
	one := big.NewInt(1)
	for _, a := range numbers() {
		v := value(a)
		for _, w := range []*big.Int{v, new(big.Int).Add(v, one), new(big.Int).Sub(v, one), new(big.Int).Neg(v), new(big.Int).Not(v)} {
			if w.BitLen() <= 512 {
				expectDiv(t, a, form(w))
			}
		}
		for _, b := range []api.Int{Of(1), Of(-1), Of(2), Of(10), Of(-10), near(63, 0), near(64, -1), near(64, 0), near(128, -1), near(448, 0), near(511, 0), most, least} {
			expectDiv(t, a, b)
			expectDiv(t, b, a)
		}
	}
	q, r, e := Div(most, Of(1))
	if q != most || r != zero || e != nil {
		t.Errorf("Div(2^512 - 1, 1) = %v, %v, %v", q, r, e)
	}
	q, r, e = Div(least, most)
	if q != Of(-1) || r != zero || e != nil {
		t.Errorf("Div(-(2^512 - 1), 2^512 - 1) = %v, %v, %v", q, r, e)
	}
}

// P7.2
func TestDivByZero(t *testing.T) {
	for _, a := range numbers() {
		for _, b := range []api.Int{zero, minus0} {
			if q, r, e := Div(a, b); q != zero || r != zero || e != api.ErrZero {
				t.Errorf("Div(%v, 0) = %v, %v, %v; want ErrZero", value(a), q, r, e)
			}
		}
	}
}

// P7.2
func TestGcd(t *testing.T) {
	for _, c := range []struct{ a, b, want string }{
		{"0", "0", "0"}, {"0", "5", "5"}, {"5", "0", "5"}, {"0", "-5", "5"}, {"-5", "0", "5"}, {"1", "1", "1"}, {"-1", "1", "1"}, {"-1", "-1", "1"},
		{"12", "18", "6"}, {"-12", "18", "6"}, {"12", "-18", "6"}, {"-12", "-18", "6"}, {"17", "5", "1"}, {"5", "15", "5"},
		{"123456789012345678901234567890", "-987654321098765432109876543210", "9000000000900000000090"},
		{"18446744073709551616", "36893488147419103232", "18446744073709551616"}, {"18446744073709551616", "18446744073709551615", "1"},
	} {
		if got := Gcd(num(c.a), num(c.b)); got != num(c.want) {
			t.Errorf("Gcd(%s, %s) = %v; want %s", c.a, c.b, value(got), c.want)
		}
	}
	for _, a := range numbers() {
		want := form(new(big.Int).Abs(value(a)))
		for _, b := range []api.Int{a, negative(a), zero, minus0} {
			if Gcd(a, b) != want || Gcd(b, a) != want {
				t.Errorf("Gcd(%v, %v) = %v, %v; want %v", value(a), value(b), Gcd(a, b), Gcd(b, a), value(want))
			}
		}
	}
	if Gcd(minus0, zero) != zero || Gcd(minus0, minus0) != zero {
		t.Error("Gcd of two 0s")
	}
}

// P7.2: neighbours in the Fibonacci sequence have 1 alone, and take the most steps; a common factor comes out again.
func TestGcdFibonacci(t *testing.T) {
	a, b := big.NewInt(0), big.NewInt(1)
	for b.BitLen() <= 512 {
		want := Of(1)
		if got := Gcd(form(a), form(b)); got != want {
			t.Errorf("Gcd(%v, %v) = %v; want 1", a, b, value(got))
		}
		f := big.NewInt(1000003)
		x, y := new(big.Int).Mul(a, f), new(big.Int).Mul(b, f)
		if y.BitLen() <= 512 && Gcd(form(x.Neg(x)), form(y)) != form(f) {
			t.Errorf("Gcd(%v, %v) is not %v", x, y, f)
		}
		a, b = b, new(big.Int).Add(a, b)
	}
}

// P7.2: what overflows at the limits of words.
func TestWordEdges(t *testing.T) {
	edge := []int64{math.MinInt64, math.MinInt64 + 1, -1 << 32, -1, 0, 1, 1 << 32, math.MaxInt64 - 1, math.MaxInt64}
	for _, a := range edge {
		for _, b := range edge {
			expectPair(t, Of(a), Of(b))
		}
	}
}
