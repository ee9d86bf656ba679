package ratio

import (
	"encoding/binary"
	"math"
	"math/big"
	"strings"
	"testing"

	"cavil/api"
)

// value is the value of a number, by the definition of chapter 07.
func value(a api.Int) *big.Int {
	var bytes [64]byte
	for i, w := range a.W {
		binary.BigEndian.PutUint64(bytes[56-8*i:], w)
	}
	v := new(big.Int).SetBytes(bytes[:])
	if a.Neg {
		v.Neg(v)
	}
	return v
}

// form is the one form of the number with a value that fits.
func form(v *big.Int) api.Int {
	a := api.Int{Neg: v.Sign() < 0}
	var bytes [64]byte
	v.FillBytes(bytes[:])
	for i := range a.W {
		a.W[i] = binary.BigEndian.Uint64(bytes[56-8*i:])
	}
	return a
}

// num is the number with a decimal text; -0 is 0 with Neg true.
func num(text string) api.Int {
	v, ok := new(big.Int).SetString(text, 10)
	if !ok {
		panic(text)
	}
	a := form(v)
	a.Neg = text[0] == '-'
	return a
}

// rat is the ratio with the numerator and the denominator of a text, as they stand there; without a slash the denominator is 1.
func rat(text string) api.Rat {
	n, d, ok := strings.Cut(text, "/")
	if !ok {
		d = "1"
	}
	return api.Rat{N: num(n), D: num(d)}
}

// near is the number 2^k + d.
func near(k uint, d int64) api.Int {
	v := new(big.Int).Lsh(big.NewInt(1), k)
	return form(v.Add(v, big.NewInt(d)))
}

// negative is the number negated, without the help of the packages.
func negative(a api.Int) api.Int {
	a.Neg = !a.Neg
	return a
}

const ones = math.MaxUint64

var (
	one    = api.Int{W: [8]uint64{1}}
	most   = api.Int{W: [8]uint64{ones, ones, ones, ones, ones, ones, ones, ones}}
	least  = api.Int{W: most.W, Neg: true}
	minus0 = api.Int{Neg: true}
	none   = api.Rat{}
)

// over is the ratio n / d, as it stands.
func over(n, d api.Int) api.Rat { return api.Rat{N: n, D: d} }

// whole is the ratio n / 1.
func whole(n api.Int) api.Rat { return over(n, one) }

// part is the ratio 1 / d.
func part(d api.Int) api.Rat { return over(one, d) }

// opposite is the ratio negated, without the help of the packages.
func opposite(a api.Rat) api.Rat {
	if value(a.N).Sign() != 0 {
		a.N = negative(a.N)
	}
	return a
}

// exactly is the value of a ratio whose denominator is not 0.
func exactly(a api.Rat) *big.Rat {
	return new(big.Rat).SetFrac(value(a.N), value(a.D))
}

// lowest is the valid ratio with a value whose lowest terms fit.
func lowest(v *big.Rat) api.Rat { return over(form(v.Num()), form(v.Denom())) }

// generator is a fixed sequence of words of which many are 0 or all ones.
type generator uint64

func (g *generator) next() uint64 {
	*g = *g*6364136223846793005 + 1442695040888963407
	return uint64(*g>>33 | *g<<31)
}

// number is a number of n words of which the highest is not 0, or, as the sign falls, below 0.
func (g *generator) number(n int) api.Int {
	a := api.Int{Neg: g.next()%2 == 1}
	for i := range n {
		a.W[i] = [...]uint64{0, ones, g.next(), g.next()}[g.next()%4]
	}
	a.W[n-1] |= 1 << (g.next() % 64)
	return a
}

// ratio is a valid ratio of numbers of n and d words before they are reduced.
func (g *generator) ratio(n, d int) api.Rat {
	return lowest(exactly(over(g.number(n), g.number(d))))
}

// sizes are numbers greater than 0 of one word, of several and of all eight.
func sizes() []api.Int {
	l := []api.Int{one, num("2"), num("3"), num("10"), num("7919"), near(63, 0), near(64, -1), near(64, 1), near(128, -1), num("100000000000000000000000000000000000000")}
	for _, k := range []uint{191, 255, 256, 257, 320, 448, 511} {
		l = append(l, near(k, 0), near(k, 1))
	}
	return append(l, near(256, -1), near(512, -2), most)
}

// ratios are valid ratios of either sign, small, great and between.
func ratios() []api.Rat {
	l := []api.Rat{rat("0"), rat("5/6"), rat("3/2"), rat("355/113"), over(most, near(512, -2)), over(near(512, -2), most)}
	for i, n := range sizes() {
		l = append(l, whole(n), part(n))
		for _, skip := range []int{1, 4, 11, 19} {
			l = append(l, lowest(exactly(over(n, sizes()[(i+skip)%len(sizes())]))))
		}
	}
	for i, a := range l {
		// Every other one below 0.
		if i%2 == 1 {
			l[i] = opposite(a)
		}
	}
	return l
}

// smallRatios are all valid ratios with numerators of at most n in magnitude and denominators of at most d.
func smallRatios(n, d int64) []api.Rat {
	var l []api.Rat
	for i := -n; i <= n; i++ {
		for j := int64(1); j <= d; j++ {
			if v := big.NewRat(i, j); v.Denom().Int64() == j {
				l = append(l, lowest(v))
			}
		}
	}
	return l
}

// show is a ratio as a test tells it.
func show(a api.Rat) string {
	return value(a.N).String() + "/" + value(a.D).String()
}

// expectRatio expects a ratio and no error.
func expectRatio(t *testing.T, call string, got api.Rat, e error, want api.Rat) {
	t.Helper()
	if e != nil || got != want {
		t.Errorf("%s = %s, %v; want %s", call, show(got), e, show(want))
	}
}

// expectError expects an error, alone, and nothing beside it.
func expectError(t *testing.T, call string, got api.Rat, e error, want api.Errno) {
	t.Helper()
	if e != want || got != none {
		t.Errorf("%s = %s, %v; want no ratio and the error %v", call, show(got), e, want)
	}
}

// P8.1: by the definition, with numbers without bounds.
func TestCheckAndWhole(t *testing.T) {
	valid := func(a api.Rat) bool {
		n, d := value(a.N), value(a.D)
		return form(n) == a.N && form(d) == a.D && d.Sign() > 0 && new(big.Int).GCD(nil, nil, new(big.Int).Abs(n), d).Cmp(big.NewInt(1)) == 0
	}
	var l []api.Int
	for n := int64(-12); n <= 12; n++ {
		l = append(l, form(big.NewInt(n)))
	}
	for _, a := range append(sizes(), minus0) {
		l = append(l, a, negative(a))
	}
	for _, n := range l {
		for _, d := range l {
			a := over(n, d)
			want := error(nil)
			if !valid(a) {
				want = api.ErrForm
			}
			if e := Check(a); e != want {
				t.Errorf("Check(%s) = %v; want %v", show(a), e, want)
			}
			if got := Whole(a); got != (valid(a) && value(d).Cmp(big.NewInt(1)) == 0) {
				t.Errorf("Whole(%s) = %t", show(a), got)
			}
		}
	}
}

// P8.1
func TestCheckEdges(t *testing.T) {
	for _, a := range append(ratios(), rat("0"), rat("1"), rat("-1"), whole(most), whole(least), part(most), over(negative(one), most), over(most, near(512, -2)), over(near(511, 0), most)) {
		if e := Check(a); e != nil {
			t.Errorf("Check(%s) = %v", show(a), e)
		}
		if Whole(a) != (a.D == one) {
			t.Errorf("Whole(%s) = %t", show(a), Whole(a))
		}
	}
}

// P8.1
func TestMake(t *testing.T) {
	for _, c := range []struct{ n, d, want string }{
		{"6", "4", "3/2"}, {"-6", "4", "-3/2"}, {"6", "-4", "-3/2"}, {"-6", "-4", "3/2"}, {"3", "2", "3/2"}, {"4", "2", "2"}, {"2", "4", "1/2"},
		{"1", "1", "1"}, {"-1", "1", "-1"}, {"1", "-1", "-1"}, {"-1", "-1", "1"}, {"7", "7", "1"}, {"7", "-7", "-1"}, {"-7", "7", "-1"}, {"-7", "-7", "1"},
		{"0", "1", "0"}, {"0", "-1", "0"}, {"0", "5", "0"}, {"0", "-5", "0"}, {"-0", "5", "0"}, {"-0", "-5", "0"}, {"-0", "1", "0"},
		{"5", "1", "5"}, {"5", "-1", "-5"}, {"1", "-5", "-1/5"}, {"36893488147419103232", "18446744073709551616", "2"}, {"18446744073709551615", "18446744073709551616", "18446744073709551615/18446744073709551616"},
		{"121932631112635269", "-987654321", "-123456789"}, {"-9000000000900000000090", "27000000002700000000270", "-1/3"},
	} {
		got, e := Make(num(c.n), num(c.d))
		expectRatio(t, "Make("+c.n+", "+c.d+")", got, e, rat(c.want))
	}
}

// P8.1: numbers of all lengths, with each other and with a great common divisor.
func TestMakeEveryPair(t *testing.T) {
	same := func(n, d api.Int) {
		got, e := Make(n, d)
		expectRatio(t, "Make("+show(over(n, d))+")", got, e, lowest(exactly(over(n, d))))
		if Check(got) != nil {
			t.Errorf("Make(%s) is not valid", show(over(n, d)))
		}
	}
	for _, n := range append(sizes(), api.Int{}, minus0) {
		for _, d := range sizes() {
			for _, c := range [][2]api.Int{{n, d}, {negative(n), d}, {n, negative(d)}, {negative(n), negative(d)}} {
				same(c[0], c[1])
			}
		}
	}
	g := generator(1)
	for i := range 400 {
		same(g.number(1+i%8), g.number(1+i/8%8))
		common := value(g.number(1 + i%7))
		n, d := new(big.Int).Mul(common, value(g.number(1))), new(big.Int).Mul(common, value(g.number(1)))
		same(form(n), form(d))
	}
}

// P8.1
func TestMakeEdges(t *testing.T) {
	for _, c := range []struct {
		n, d api.Int
		want api.Rat
	}{
		{most, most, rat("1")}, {most, least, rat("-1")}, {least, most, rat("-1")}, {least, least, rat("1")},
		{most, one, whole(most)}, {most, negative(one), whole(least)}, {one, most, part(most)}, {one, least, over(negative(one), most)}, {least, negative(one), whole(most)},
		{most, near(512, -2), over(most, near(512, -2))}, {least, near(512, -2), over(least, near(512, -2))}, {near(512, -2), least, over(negative(near(512, -2)), most)},
		{near(511, 0), near(510, 0), rat("2")}, {near(510, 0), negative(near(511, 0)), rat("-1/2")}, {most, near(256, -1), whole(near(256, 1))}, {near(256, 1), most, part(near(256, -1))},
		{api.Int{}, most, rat("0")}, {api.Int{}, least, rat("0")}, {minus0, least, rat("0")},
	} {
		got, e := Make(c.n, c.d)
		expectRatio(t, "Make("+show(over(c.n, c.d))+")", got, e, c.want)
	}
}

// P8.1
func TestMakeByZero(t *testing.T) {
	for _, n := range append(sizes(), api.Int{}, minus0, num("-1"), least) {
		for _, d := range []api.Int{{}, minus0} {
			got, e := Make(n, d)
			expectError(t, "Make("+show(over(n, d))+")", got, e, api.ErrZero)
		}
	}
}

// P8.1
func TestOf(t *testing.T) {
	for text, n := range map[string]int64{
		"0": 0, "1": 1, "-1": -1, "2": 2, "-10": -10, "4294967296": 1 << 32, "9223372036854775806": math.MaxInt64 - 1,
		"9223372036854775807": math.MaxInt64, "-9223372036854775807": math.MinInt64 + 1, "-9223372036854775808": math.MinInt64,
	} {
		got := Of(n)
		expectRatio(t, "Of("+text+")", got, Check(got), rat(text))
		if !Whole(got) {
			t.Errorf("Of(%s) is not whole", text)
		}
	}
}

// P8.3, P8.6
func TestNeg(t *testing.T) {
	for _, c := range [][2]string{{"0", "0"}, {"1", "-1"}, {"-1", "1"}, {"1/2", "-1/2"}, {"-7/2", "7/2"}, {"355/113", "-355/113"}} {
		got := Neg(rat(c[0]))
		expectRatio(t, "Neg("+c[0]+")", got, Check(got), rat(c[1]))
	}
	for _, a := range ratios() {
		got := Neg(a)
		expectRatio(t, "Neg("+show(a)+")", got, Check(got), lowest(new(big.Rat).Neg(exactly(a))))
		if Neg(got) != a {
			t.Errorf("Neg twice of %s is %s", show(a), show(Neg(got)))
		}
	}
}

// P8.3
func TestTrunc(t *testing.T) {
	for _, c := range [][2]string{
		{"7/2", "3"}, {"-7/2", "-3"}, {"6", "6"}, {"-6", "-6"}, {"0", "0"}, {"1/2", "0"}, {"-1/2", "0"}, {"2/3", "0"}, {"-2/3", "0"}, {"1", "1"}, {"-1", "-1"},
		{"3/2", "1"}, {"-3/2", "-1"}, {"355/113", "3"}, {"-355/113", "-3"}, {"36893488147419103231/2", "18446744073709551615"}, {"-36893488147419103233/2", "-18446744073709551616"},
		{"18446744073709551615/18446744073709551616", "0"}, {"-18446744073709551617/18446744073709551616", "-1"},
	} {
		if got, e := Trunc(rat(c[0])); e != nil || got != num(c[1]) {
			t.Errorf("Trunc(%s) = %v, %v; want %s", c[0], value(got), e, c[1])
		}
	}
	for _, a := range append(ratios(), whole(most), whole(least), part(most), over(negative(one), most), over(most, near(512, -2)), over(least, num("2"))) {
		if got, e := Trunc(a); e != nil || got != form(new(big.Int).Quo(value(a.N), value(a.D))) {
			t.Errorf("Trunc(%s) = %v, %v", show(a), value(got), e)
		}
	}
}

// P8.5
func TestText(t *testing.T) {
	for _, text := range []string{"0", "1", "-1", "10", "-10", "1/2", "-1/2", "5/6", "-355/113", "18446744073709551616", "-18446744073709551616/3", "1/18446744073709551616", "-1/100000000000000000000000000000000000000"} {
		if got := Text(rat(text)); got != text {
			t.Errorf("Text(%s) = %s", text, got)
		}
	}
	for _, a := range ratios() {
		if got := Text(a); got != exactly(a).RatString() {
			t.Errorf("Text(%s) = %s", show(a), got)
		}
	}
}
