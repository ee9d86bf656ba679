package ratio

import (
	"math"
	"math/big"
	"strconv"
	"testing"

	"cavil/api"
)

// stepByStep is what P8.4 says of a valid ratio, a base and an exponent in range, with numbers without bounds; false if a step does not fit.
func stepByStep(a api.Rat, base, exp int) (api.Rat, bool) {
	v := exactly(a)
	by := big.NewInt(int64(base))
	for range max(exp, -exp) {
		n, d := new(big.Int).Set(v.Num()), new(big.Int).Set(v.Denom())
		if exp > 0 {
			n.Mul(n, by)
		} else {
			d.Mul(d, by)
		}
		if !fit(n, d) {
			return none, false
		}
		v.SetFrac(n, d)
	}
	return lowest(v), true
}

// told is a call of Scale as a test tells it.
func told(a api.Rat, base, exp int) string {
	return "Scale(" + show(a) + ", " + strconv.Itoa(base) + ", " + strconv.Itoa(exp) + ")"
}

// expectScale expects what P8.4 says of a valid ratio, a base and an exponent in range.
func expectScale(t *testing.T, a api.Rat, base, exp int) {
	t.Helper()
	got, e := Scale(a, base, exp)
	want, ok := stepByStep(a, base, exp)
	if !ok {
		expectError(t, told(a, base, exp), got, e, api.ErrOver)
		return
	}
	expectRatio(t, told(a, base, exp), got, e, want)
	if Check(got) != nil {
		t.Errorf("%s is not valid", told(a, base, exp))
	}
}

// P8.4
func TestScale(t *testing.T) {
	for _, c := range []struct {
		a         string
		base, exp int
		want      string
	}{
		{"3", 10, -2, "3/100"}, {"1/8", 2, 5, "4"}, {"3", 10, 2, "300"}, {"-3", 10, 1, "-30"}, {"-3", 10, -1, "-3/10"}, {"5/6", 2, 1, "5/3"}, {"5/6", 2, -1, "5/12"},
		{"7/100", 10, 1, "7/10"}, {"7/100", 10, 2, "7"}, {"7/100", 10, 3, "70"}, {"1/3", 10, 4, "10000/3"}, {"5/2", 10, -1, "1/4"}, {"1", 2, 10, "1024"}, {"-1", 2, -10, "-1/1024"},
		{"1/15", 10, 1, "2/3"}, {"12", 10, -1, "6/5"}, {"12", 2, -2, "3"}, {"12", 2, -3, "3/2"}, {"1", 10, 1, "10"}, {"1", 2, -1, "1/2"},
		{"1", 2, 64, "18446744073709551616"}, {"1", 10, 20, "100000000000000000000"}, {"1", 10, -20, "1/100000000000000000000"},
	} {
		got, e := Scale(rat(c.a), c.base, c.exp)
		expectRatio(t, told(rat(c.a), c.base, c.exp), got, e, rat(c.want))
	}
}

// P8.4: ratios of all lengths, by exponents in range.
func TestScaleMany(t *testing.T) {
	exps := []int{-5, -1, 0, 1, 2, 60, -70, 150}
	for i, a := range ratios() {
		for j, exp := range exps {
			expectScale(t, a, 2, exp+i%3)
			expectScale(t, a, 10, exp-j%2)
		}
	}
	for _, a := range smallRatios(10, 10) {
		for exp := -12; exp <= 12; exp++ {
			expectScale(t, a, 2, exp)
			expectScale(t, a, 10, exp)
		}
	}
}

// P8.4: by 0 a ratio stays as it is, and 0 stays 0, as long as the exponent is in range.
func TestScaleByZeroAndOfZero(t *testing.T) {
	for _, a := range append(ratios(), whole(most), part(most), over(least, near(512, -2))) {
		for _, base := range []int{2, 10} {
			got, e := Scale(a, base, 0)
			expectRatio(t, told(a, base, 0), got, e, a)
		}
	}
	for _, exp := range []int{1, -1, 512, -512, 999, -999, 1000, -1000} {
		for _, base := range []int{2, 10} {
			got, e := Scale(rat("0"), base, exp)
			expectRatio(t, told(rat("0"), base, exp), got, e, rat("0"))
		}
	}
}

// ten is the number 10^k.
func ten(k int64) api.Int { return form(new(big.Int).Exp(big.NewInt(10), big.NewInt(k), nil)) }

// P8.4: as much as just fits, and one step more, for either sign.
func TestScaleEdges(t *testing.T) {
	for _, c := range []struct {
		a               api.Rat
		base, exp, more int
		want            api.Rat
	}{
		{rat("1"), 2, 511, 512, whole(near(511, 0))}, {rat("1"), 2, -511, -512, part(near(511, 0))},
		{rat("1"), 10, 154, 155, whole(ten(154))}, {rat("1"), 10, -154, -155, part(ten(154))},
		{whole(near(510, 0)), 2, 1, 2, whole(near(511, 0))}, {part(near(510, 0)), 2, -1, -2, part(near(511, 0))},
		{whole(near(511, -1)), 2, 1, 2, whole(near(512, -2))}, {part(near(511, -1)), 2, -1, -2, part(near(512, -2))},
		{whole(most), 2, 0, 1, whole(most)}, {part(most), 10, 0, -1, part(most)},
		{whole(ten(153)), 10, 1, 2, whole(ten(154))}, {part(ten(153)), 10, -1, -2, part(ten(154))},
		{part(near(400, 0)), 2, 911, 912, whole(near(511, 0))}, {whole(near(400, 0)), 2, -911, -912, part(near(511, 0))},
		{part(ten(154)), 10, 308, 309, whole(ten(154))}, {whole(ten(154)), 10, -308, -309, part(ten(154))},
	} {
		for _, turned := range []func(a api.Rat) api.Rat{func(a api.Rat) api.Rat { return a }, opposite} {
			a := turned(c.a)
			got, e := Scale(a, c.base, c.exp)
			expectRatio(t, told(a, c.base, c.exp), got, e, turned(c.want))
			got, e = Scale(a, c.base, c.more)
			expectError(t, told(a, c.base, c.more), got, e, api.ErrOver)
		}
	}
}

// P8.4: a thousand steps each way.
func TestScaleThousand(t *testing.T) {
	for _, c := range []struct {
		a    api.Rat
		exp  int
		want api.Rat
	}{
		{part(near(500, 0)), 1000, whole(near(500, 0))}, {whole(near(500, 0)), -1000, part(near(500, 0))},
		{part(near(489, 0)), 1000, whole(near(511, 0))}, {part(near(489, 0)), 999, whole(near(510, 0))}, {whole(negative(near(489, 0))), -1000, over(negative(one), near(511, 0))},
	} {
		got, e := Scale(c.a, 2, c.exp)
		expectRatio(t, told(c.a, 2, c.exp), got, e, c.want)
	}
}

// P8.4: what fits once it is reduced counts only if it fits before that.
func TestScaleBeforeReduced(t *testing.T) {
	for _, c := range []struct {
		a         api.Rat
		base, exp int
		want      api.Rat
	}{
		{over(most, num("2")), 2, 1, none}, {over(near(511, -1), num("2")), 2, 1, whole(near(511, -1))}, {over(near(511, 1), num("2")), 2, 1, none},
		{over(num("2"), most), 2, -1, none}, {over(num("2"), near(511, -1)), 2, -1, part(near(511, -1))}, {over(num("2"), near(511, 1)), 2, -1, none},
		{over(near(511, 1), num("10")), 10, 1, none}, {over(near(508, 1), num("10")), 10, 1, whole(near(508, 1))},
		{over(num("10"), near(511, 1)), 10, -1, none}, {over(num("10"), near(508, 1)), 10, -1, part(near(508, 1))},
		{over(near(508, 1), num("1000")), 10, 3, whole(near(508, 1))}, {over(near(511, 1), num("1000")), 10, 3, none},
	} {
		for _, turned := range []func(a api.Rat) api.Rat{func(a api.Rat) api.Rat { return a }, opposite} {
			a := turned(c.a)
			got, e := Scale(a, c.base, c.exp)
			if c.want == none {
				expectError(t, told(a, c.base, c.exp), got, e, api.ErrOver)
			} else {
				expectRatio(t, told(a, c.base, c.exp), got, e, turned(c.want))
			}
		}
	}
}

// P8.4: the exponents next to the range's limits, and the greatest.
func TestScaleRange(t *testing.T) {
	for _, a := range []api.Rat{rat("0"), rat("1"), rat("-1/3"), whole(most), part(most), part(near(489, 0))} {
		for _, base := range []int{2, 10} {
			expectScale(t, a, base, 1000)
			expectScale(t, a, base, -1000)
			for _, exp := range []int{1001, -1001, 1002, -1024, 1 << 32, -1 << 32, math.MaxInt, math.MaxInt - 1, math.MinInt, math.MinInt + 1} {
				got, e := Scale(a, base, exp)
				expectError(t, told(a, base, exp), got, e, api.ErrOver)
			}
		}
	}
}

// P8.4: the base comes ahead of the exponent.
func TestScaleWrongBase(t *testing.T) {
	for _, a := range []api.Rat{rat("0"), rat("1"), rat("-7/2"), whole(most), part(most)} {
		for _, base := range []int{0, 1, 3, -1, -2, -10, 5, 8, 9, 11, 16, 1<<32 + 2, 1<<32 + 10, math.MaxInt, math.MinInt} {
			for _, exp := range []int{0, 1, -1, 1000, -1000, 1001, -1001, math.MaxInt, math.MinInt} {
				got, e := Scale(a, base, exp)
				expectError(t, told(a, base, exp), got, e, api.ErrArg)
			}
		}
	}
}
