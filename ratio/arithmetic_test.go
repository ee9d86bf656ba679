package ratio

import (
	"math/big"
	"testing"

	"cavil/api"
)

// calls are the calls that make one ratio of two.
func calls() map[string]func(a, b api.Rat) (api.Rat, error) {
	return map[string]func(a, b api.Rat) (api.Rat, error){"Add": Add, "Sub": Sub, "Mul": Mul, "Quo": Quo}
}

// exact are the same calls for values without bounds.
func exact() map[string]func(a, b *big.Rat) *big.Rat {
	made := func(f func(z, a, b *big.Rat) *big.Rat) func(a, b *big.Rat) *big.Rat {
		return func(a, b *big.Rat) *big.Rat { return f(new(big.Rat), a, b) }
	}
	return map[string]func(a, b *big.Rat) *big.Rat{
		"Add": made((*big.Rat).Add), "Sub": made((*big.Rat).Sub), "Mul": made((*big.Rat).Mul), "Quo": made((*big.Rat).Quo),
	}
}

// product is the product of two numbers without bounds.
func product(a, b api.Int) *big.Int { return new(big.Int).Mul(value(a), value(b)) }

// fit reports whether all of some numbers have at most 512 bits.
func fit(l ...*big.Int) bool {
	for _, v := range l {
		if v.BitLen() > 512 {
			return false
		}
	}
	return true
}

// fits reports whether all numbers fit that the chapter has a call compute.
func fits(call string, a, b api.Rat) bool {
	left, right := product(a.N, b.D), product(b.N, a.D)
	switch call {
	case "Add":
		return fit(left, right, new(big.Int).Add(left, right), product(a.D, b.D))
	case "Sub":
		return fit(left, right, new(big.Int).Sub(left, right), product(a.D, b.D))
	case "Mul":
		return fit(product(a.N, b.N), product(a.D, b.D))
	case "Quo":
		return fit(left, product(a.D, b.N))
	}
	return fit(left, right)
}

// expectPair sends two valid ratios through each call.
func expectPair(t *testing.T, a, b api.Rat) {
	t.Helper()
	want := exact()
	for name, call := range calls() {
		got, e := call(a, b)
		told := name + "(" + show(a) + ", " + show(b) + ")"
		switch {
		case name == "Quo" && b.N == (api.Int{}):
			expectError(t, told, got, e, api.ErrZero)
		case !fits(name, a, b):
			expectError(t, told, got, e, api.ErrOver)
		default:
			expectRatio(t, told, got, e, lowest(want[name](exactly(a), exactly(b))))
			if Check(got) != nil {
				t.Errorf("%s = %s: not valid", told, show(got))
			}
		}
	}
	order, e := Cmp(a, b)
	if fits("Cmp", a, b) {
		expectOrder(t, a, b, order, e, exactly(a).Cmp(exactly(b)))
	} else if order != 0 || e != api.ErrOver {
		t.Errorf("Cmp(%s, %s) = %d, %v; want ErrOver", show(a), show(b), order, e)
	}
}

// expectOrder expects an answer of Cmp and no error.
func expectOrder(t *testing.T, a, b api.Rat, got int, e error, want int) {
	t.Helper()
	if got != want || e != nil {
		t.Errorf("Cmp(%s, %s) = %d, %v; want %d", show(a), show(b), got, e, want)
	}
}

// P8.2, P8.6: each pair of small ratios.
func TestEverySmallPair(t *testing.T) {
	all := smallRatios(8, 8)
	for _, a := range all {
		for _, b := range all {
			expectPair(t, a, b)
		}
	}
}

// P8.2, P8.6: each pair of ratios of all lengths, of either sign.
func TestEveryPair(t *testing.T) {
	all := ratios()
	for i, a := range all {
		for j, b := range all {
			if (i+j)%3 == 0 {
				a = opposite(a)
			}
			expectPair(t, a, b)
		}
	}
}

// P8.2, P8.6: pairs of more ratios.
func TestManyPairs(t *testing.T) {
	g := generator(8)
	for i := range 3000 {
		expectPair(t, g.ratio(1+i%4, 1+i/4%4), g.ratio(1+i/16%4, 1+i/64%4))
	}
}

// P8.2
func TestArithmetic(t *testing.T) {
	for _, c := range []struct{ a, b, add, sub, mul, quo string }{
		{"1/2", "1/3", "5/6", "1/6", "1/6", "3/2"}, {"1/6", "1/3", "1/2", "-1/6", "1/18", "1/2"}, {"2/3", "-9/4", "-19/12", "35/12", "-3/2", "-8/27"},
		{"2/3", "-4/9", "2/9", "10/9", "-8/27", "-3/2"}, {"-2/3", "-4/9", "-10/9", "-2/9", "8/27", "3/2"}, {"-1/2", "1/2", "0", "-1", "-1/4", "-1"},
		{"0", "5/7", "5/7", "-5/7", "0", "0"}, {"0", "-5/7", "-5/7", "5/7", "0", "0"}, {"5", "1", "6", "4", "5", "5"}, {"1", "-5", "-4", "6", "-5", "-1/5"},
		{"1/2", "1/2", "1", "0", "1/4", "1"}, {"-1", "-1", "-2", "0", "1", "1"}, {"3/4", "4/3", "25/12", "-7/12", "1", "9/16"}, {"7", "1/7", "50/7", "48/7", "1", "49"},
	} {
		want := map[string]string{"Add": c.add, "Sub": c.sub, "Mul": c.mul, "Quo": c.quo}
		for name, call := range calls() {
			got, e := call(rat(c.a), rat(c.b))
			expectRatio(t, name+"("+c.a+", "+c.b+")", got, e, rat(want[name]))
		}
	}
}

// P8.2: a sum that is 0, and a difference of equal ratios.
func TestSumOfZero(t *testing.T) {
	for _, a := range append(smallRatios(5, 5), whole(most), whole(least), over(near(256, 1), near(255, -1)), over(near(256, -1), near(255, -1))) {
		sum, e := Add(a, opposite(a))
		expectRatio(t, "Add of "+show(a)+" and its opposite", sum, e, rat("0"))
		difference, e := Sub(a, a)
		expectRatio(t, "Sub of "+show(a)+" twice", difference, e, rat("0"))
	}
	// The products count, not the 0 that they would make.
	for _, a := range []api.Rat{part(near(256, 0)), over(near(511, 0), num("3")), part(most), over(most, near(512, -2))} {
		sum, e := Add(a, opposite(a))
		expectError(t, "Add of "+show(a)+" and its opposite", sum, e, api.ErrOver)
		difference, e := Sub(a, a)
		expectError(t, "Sub of "+show(a)+" twice", difference, e, api.ErrOver)
	}
}

// expectBothSigns expects that a call makes want of a and b, and the opposite of want of what they are turned into; ErrOver both times, if want is none.
func expectBothSigns(t *testing.T, name string, a, b, want api.Rat, turned func(a, b api.Rat) (x, y api.Rat)) {
	t.Helper()
	x, y := turned(a, b)
	for _, c := range []struct{ a, b, want api.Rat }{{a, b, want}, {x, y, opposite(want)}} {
		got, e := calls()[name](c.a, c.b)
		told := name + "(" + show(c.a) + ", " + show(c.b) + ")"
		if want == none {
			expectError(t, told, got, e, api.ErrOver)
		} else {
			expectRatio(t, told, got, e, c.want)
		}
	}
}

// both, first and second turn both ratios, or one of them, into the opposite.
func both(a, b api.Rat) (x, y api.Rat)   { return opposite(a), opposite(b) }
func first(a, b api.Rat) (x, y api.Rat)  { return opposite(a), b }
func second(a, b api.Rat) (x, y api.Rat) { return a, opposite(b) }

// P8.2: sums and differences that just fit and just do not; none stands for ErrOver.
func TestSumEdges(t *testing.T) {
	for _, c := range []struct{ a, b, sum api.Rat }{
		{whole(near(512, -2)), rat("1"), whole(most)}, {whole(most), rat("0"), whole(most)}, {whole(near(511, 0)), whole(near(511, -1)), whole(most)},
		{whole(most), rat("1"), none}, {whole(near(511, 0)), whole(near(511, 0)), none}, {whole(most), whole(most), none},
		// A product of a numerator and a denominator.
		{whole(near(511, -1)), rat("1/2"), over(most, num("2"))}, {whole(near(511, 0)), rat("1/2"), none}, {rat("1/2"), whole(near(511, 0)), none},
		{whole(near(511, 0)), rat("-1/2"), none}, {rat("-1/2"), whole(near(511, 0)), none}, {whole(near(511, 0)), rat("0"), whole(near(511, 0))},
		// Their sum.
		{whole(near(511, -1)), rat("3/2"), none}, {over(most, num("2")), rat("-1/2"), none}, {over(near(510, 1), num("2")), rat("1/2"), whole(near(509, 1))},
		// The product of the denominators.
		{part(near(256, -1)), part(near(256, 1)), over(near(257, 0), most)}, {part(near(256, 0)), part(near(256, 0)), none}, {part(near(256, 0)), part(near(256, 1)), none},
		{part(most), rat("1"), none}, {part(near(512, -2)), rat("1"), over(most, near(512, -2))}, {part(most), rat("0"), part(most)}, {part(most), rat("1/2"), none},
		// In lowest terms they would fit.
		{part(near(300, 0)), part(near(300, 0)), none}, {part(near(511, 0)), rat("1/2"), none}, {whole(near(511, 0)), rat("-1/3"), none},
	} {
		expectBothSigns(t, "Add", c.a, c.b, c.sum, both)
		expectBothSigns(t, "Add", c.b, c.a, c.sum, both)
		expectBothSigns(t, "Sub", c.a, opposite(c.b), c.sum, both)
	}
}

// P8.2: products that just fit and just do not; none stands for ErrOver.
func TestProductEdges(t *testing.T) {
	for _, c := range []struct{ a, b, product api.Rat }{
		{whole(near(256, -1)), whole(near(256, 1)), whole(most)}, {whole(near(256, 0)), whole(near(255, 0)), whole(near(511, 0))}, {whole(most), rat("1"), whole(most)},
		{whole(near(256, 0)), whole(near(256, 0)), none}, {whole(near(511, 0)), rat("2"), none}, {whole(most), whole(most), none},
		{part(near(256, -1)), part(near(256, 1)), part(most)}, {part(near(256, 0)), part(near(255, 0)), part(near(511, 0))}, {part(near(256, 0)), part(near(256, 0)), none}, {part(most), rat("1/2"), none},
		{over(near(256, -1), near(255, 0)), over(near(256, 1), near(256, -1)), over(near(256, 1), near(255, 0))},
		// In lowest terms they would fit.
		{whole(near(511, 0)), rat("2/3"), none}, {over(near(511, 0), num("3")), over(num("3"), near(511, 0)), none}, {over(near(256, 0), num("3")), over(near(256, 0), near(256, 1)), none},
		{rat("2/3"), part(near(511, 0)), none}, {whole(most), over(num("2"), most), none}, {part(most), over(near(512, -2), num("5")), none},
		{rat("0"), whole(most), rat("0")}, {rat("0"), part(most), rat("0")}, {whole(most), part(most), rat("1")},
	} {
		expectBothSigns(t, "Mul", c.a, c.b, c.product, first)
		expectBothSigns(t, "Mul", c.b, c.a, c.product, second)
		if c.b.N == (api.Int{}) || c.a.N == (api.Int{}) {
			continue
		}
		expectBothSigns(t, "Quo", c.a, over(c.b.D, c.b.N), c.product, first)
		expectBothSigns(t, "Quo", c.a, over(c.b.D, c.b.N), c.product, second)
	}
}

// P8.2: of a negative divisor the sign goes to the numerator.
func TestQuoByNegative(t *testing.T) {
	for _, c := range []struct{ a, b, want api.Rat }{
		{rat("1/2"), rat("-1"), rat("-1/2")}, {rat("-1/2"), rat("-1"), rat("1/2")}, {rat("1"), rat("-2/3"), rat("-3/2")}, {rat("-1"), rat("-2/3"), rat("3/2")},
		{rat("0"), rat("-7/3"), rat("0")}, {rat("0"), whole(least), rat("0")}, {rat("1"), whole(least), over(negative(one), most)}, {whole(least), rat("-1"), whole(most)},
		{whole(least), whole(least), rat("1")}, {rat("-1"), over(negative(one), most), whole(most)}, {rat("1/2"), whole(negative(near(510, 0))), over(negative(one), near(511, 0))},
	} {
		got, e := Quo(c.a, c.b)
		expectRatio(t, "Quo("+show(c.a)+", "+show(c.b)+")", got, e, c.want)
	}
	got, e := Quo(rat("1/2"), whole(negative(near(511, 0))))
	expectError(t, "Quo(1/2, -2^511)", got, e, api.ErrOver)
}

// P8.2
func TestQuoByZero(t *testing.T) {
	for _, a := range append(ratios(), whole(most), part(most), over(least, near(512, -2))) {
		got, e := Quo(a, rat("0"))
		expectError(t, "Quo("+show(a)+", 0)", got, e, api.ErrZero)
	}
}

// P8.2
func TestCmp(t *testing.T) {
	for _, c := range []struct {
		a, b string
		want int
	}{
		{"0", "0", 0}, {"1", "1", 0}, {"-1/2", "-1/2", 0}, {"0", "1", -1}, {"0", "-1", 1}, {"1/3", "2/5", -1}, {"2/5", "1/3", 1}, {"-1/3", "-2/5", 1}, {"-2/5", "-1/3", -1},
		{"-1/3", "1/3", -1}, {"1/3", "-1/3", 1}, {"1/2", "1/3", 1}, {"7/2", "3", 1}, {"7/2", "4", -1}, {"-7/2", "-3", -1}, {"-100", "1/100", -1}, {"355/113", "22/7", -1},
	} {
		got, e := Cmp(rat(c.a), rat(c.b))
		expectOrder(t, rat(c.a), rat(c.b), got, e, c.want)
	}
}

// P8.2: neighbours, whose products differ by 1, and equal ratios.
func TestCmpNeighbours(t *testing.T) {
	for _, k := range []uint{2, 31, 63, 64, 127, 128, 200, 254, 255} {
		a, b := over(near(k, -1), near(k, 0)), over(near(k, 0), near(k, 1))
		for _, c := range []struct {
			a, b api.Rat
			want int
		}{{a, b, -1}, {b, a, 1}, {opposite(a), opposite(b), 1}, {opposite(b), opposite(a), -1}, {a, a, 0}, {b, b, 0}, {opposite(a), a, -1}, {a, opposite(a), 1}} {
			got, e := Cmp(c.a, c.b)
			expectOrder(t, c.a, c.b, got, e, c.want)
		}
	}
	for _, c := range []struct {
		a, b api.Rat
		want int
	}{
		{whole(most), whole(near(512, -2)), 1}, {whole(least), whole(negative(near(512, -2))), -1}, {part(most), part(near(512, -2)), -1}, {part(most), rat("0"), 1},
		{whole(most), whole(most), 0}, {part(most), part(most), 0}, {whole(least), whole(most), -1}, {over(negative(one), most), part(most), -1}, {rat("0"), over(negative(one), most), 1},
	} {
		got, e := Cmp(c.a, c.b)
		expectOrder(t, c.a, c.b, got, e, c.want)
	}
}

// P8.2: one of the products does not fit, though the order is plain to see.
func TestCmpOver(t *testing.T) {
	for _, c := range [][2]api.Rat{
		{whole(most), rat("1/2")}, {over(near(511, 0), num("3")), over(near(511, 0), num("3"))}, {whole(most), part(most)}, {over(near(256, 0), num("3")), part(near(256, 0))},
		{whole(near(511, 0)), rat("-1/2")}, {whole(least), rat("5/2")}, {over(most, near(512, -2)), over(near(512, -2), most)},
	} {
		for _, c := range [][2]api.Rat{c, {c[1], c[0]}, {opposite(c[0]), c[1]}, {opposite(c[1]), opposite(c[0])}} {
			if got, e := Cmp(c[0], c[1]); got != 0 || e != api.ErrOver {
				t.Errorf("Cmp(%s, %s) = %d, %v; want ErrOver", show(c[0]), show(c[1]), got, e)
			}
		}
	}
}

// P8.6: as long as no step returns an error.
func TestAssociative(t *testing.T) {
	l := append(smallRatios(3, 4), over(near(64, -1), near(64, 1)), whole(near(128, 0)), part(near(128, 1)), over(near(255, 0), num("3")), over(num("-5"), near(255, -1)), whole(near(511, 0)), part(near(511, 0)), whole(least), part(most))
	for name, call := range map[string]func(a, b api.Rat) (api.Rat, error){"Add": Add, "Mul": Mul} {
		together := 0
		for _, a := range l {
			for _, b := range l {
				for _, c := range l {
					left, e := call(a, b)
					right, f := call(b, c)
					if e != nil || f != nil {
						continue
					}
					left, e = call(left, c)
					right, f = call(a, right)
					if e != nil || f != nil {
						continue
					}
					together++
					if left != right {
						t.Errorf("%s of %s, %s, %s: %s from the left, %s from the right", name, show(a), show(b), show(c), show(left), show(right))
					}
				}
			}
		}
		if together < len(l)*len(l) {
			t.Errorf("%s: only %d triples without an error", name, together)
		}
	}
}
