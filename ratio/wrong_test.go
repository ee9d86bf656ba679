package ratio

import (
	"math"
	"testing"

	"cavil/api"
)

// wrong are ratios that are not valid.
func wrong() []api.Rat {
	l := []api.Rat{
		none, over(minus0, api.Int{}), over(api.Int{}, minus0), over(minus0, minus0), whole(minus0), over(one, minus0), over(minus0, num("2")),
		over(near(511, 0), num("2")), over(most, near(256, 1)), over(most, most), over(least, most), over(most, least), over(near(512, -2), near(511, -1)),
		over(most, api.Int{}), over(one, least), over(api.Int{}, most), over(most, negative(one)),
	}
	for _, text := range []string{
		"1/0", "-1/0", "5/0", "1/-1", "-1/-1", "1/-2", "-1/-2", "3/-2", "0/-1", "0/2", "0/-2", "0/5", "-0/-1",
		"2/4", "-2/4", "6/3", "-6/3", "6/4", "5/5", "-5/5", "10/10", "2/-4", "36893488147419103232/18446744073709551616",
	} {
		l = append(l, rat(text))
	}
	return l
}

// P8.1
func TestWrongCheckAndWhole(t *testing.T) {
	for _, a := range wrong() {
		if e := Check(a); e != api.ErrForm {
			t.Errorf("Check(%v) = %v; want ErrForm", a, e)
		}
		if Whole(a) {
			t.Errorf("Whole(%v) = true", a)
		}
	}
}

// expectForm expects ErrForm of each call for two ratios.
func expectForm(t *testing.T, a, b api.Rat) {
	t.Helper()
	for name, call := range calls() {
		got, e := call(a, b)
		expectError(t, name+"("+show(a)+", "+show(b)+")", got, e, api.ErrForm)
	}
	if got, e := Cmp(a, b); got != 0 || e != api.ErrForm {
		t.Errorf("Cmp(%v, %v) = %d, %v; want ErrForm", a, b, got, e)
	}
}

// P8.2: as the first argument, as the second, and as both, whatever the other one is: by 0 too, and where products do not fit.
func TestWrongPairs(t *testing.T) {
	valid := append(smallRatios(3, 3), whole(most), whole(least), part(most), over(most, near(512, -2)), over(near(512, -2), most))
	for _, a := range wrong() {
		for _, b := range valid {
			expectForm(t, a, b)
			expectForm(t, b, a)
		}
		for _, b := range wrong() {
			expectForm(t, a, b)
		}
	}
}

// P8.2: a divisor with the value 0 that is not valid, or whose dividend is not.
func TestWrongQuoByZero(t *testing.T) {
	for _, c := range [][2]string{{"1", "0/2"}, {"1", "0/-1"}, {"1", "0/0"}, {"0", "0/2"}, {"1", "-0/1"}, {"2/4", "0"}, {"0/2", "0"}, {"1/0", "0"}, {"-0/1", "0"}, {"0/2", "0/2"}} {
		got, e := Quo(rat(c[0]), rat(c[1]))
		expectError(t, "Quo("+c[0]+", "+c[1]+")", got, e, api.ErrForm)
	}
	for _, text := range []string{"0", "1", "-7/2"} {
		got, e := Quo(rat(text), rat("0"))
		expectError(t, "Quo("+text+", 0)", got, e, api.ErrZero)
	}
}

// P8.3: Neg looks at nothing but the numerator, and leaves the denominator as it is.
func TestWrongNeg(t *testing.T) {
	for _, c := range []struct{ a, want api.Rat }{
		{none, none}, {rat("2/4"), rat("-2/4")}, {rat("-2/4"), rat("2/4")}, {rat("1/0"), rat("-1/0")}, {rat("1/-2"), rat("-1/-2")}, {rat("-1/-2"), rat("1/-2")}, {rat("0/2"), rat("0/2")},
		{rat("-0/1"), rat("0/1")}, {over(minus0, minus0), over(api.Int{}, minus0)}, {over(one, minus0), over(negative(one), minus0)}, {over(most, most), over(least, most)}, {over(least, least), over(most, least)},
	} {
		if got := Neg(c.a); got != c.want {
			t.Errorf("Neg(%v) = %v; want %v", c.a, got, c.want)
		}
	}
}

// P8.3
func TestWrongTrunc(t *testing.T) {
	for _, a := range wrong() {
		if got, e := Trunc(a); got != (api.Int{}) || e != api.ErrForm {
			t.Errorf("Trunc(%v) = %v, %v; want ErrForm", a, got, e)
		}
	}
}

// P8.4: the ratio comes ahead of the base and of the exponent.
func TestWrongScale(t *testing.T) {
	for _, a := range wrong() {
		for _, base := range []int{2, 10, 0, 1, 3, -2, 16, math.MaxInt, math.MinInt} {
			for _, exp := range []int{0, 1, -1, 1000, 1001, -1001, math.MaxInt, math.MinInt} {
				got, e := Scale(a, base, exp)
				expectError(t, told(a, base, exp), got, e, api.ErrForm)
			}
		}
	}
}

// P8.5: Text tells the parts as they are; only as numbers they have their one form.
func TestWrongText(t *testing.T) {
	for _, text := range []string{"2/4", "-2/4", "6/3", "5/5", "0/2", "0/0", "1/0", "-1/0", "1/-1", "-1/-1", "1/-2", "0/-1", "36893488147419103232/18446744073709551616"} {
		if got := Text(rat(text)); got != text {
			t.Errorf("Text(%s) = %s", text, got)
		}
	}
	for _, c := range []struct {
		a    api.Rat
		want string
	}{
		{none, "0/0"}, {whole(minus0), "0"}, {over(minus0, num("2")), "0/2"}, {over(one, minus0), "1/0"}, {over(minus0, minus0), "0/0"}, {over(num("5"), negative(one)), "5/-1"},
	} {
		if got := Text(c.a); got != c.want {
			t.Errorf("Text(%v) = %s; want %s", c.a, got, c.want)
		}
	}
}
