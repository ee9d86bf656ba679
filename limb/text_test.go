package limb

import (
	"math"
	"math/big"
	"strconv"
	"strings"
	"testing"

	"cavil/api"
)

// bases are those that Parse knows.
func bases() []int { return []int{2, 8, 10, 16} }

// P7.5
func TestText(t *testing.T) {
	for _, a := range numbers() {
		if got, want := Text(a), value(a).String(); got != want {
			t.Errorf("Text = %q; want %q", got, want)
		}
	}
	for _, c := range []struct {
		a    api.Int
		want string
	}{
		{zero, "0"}, {minus0, "0"}, {Of(7), "7"}, {Of(-7), "-7"}, {Of(10), "10"}, {Of(math.MaxInt64), "9223372036854775807"}, {Of(math.MinInt64), "-9223372036854775808"},
		{near(64, -1), "18446744073709551615"}, {near(64, 0), "18446744073709551616"}, {negative(near(128, 0)), "-340282366920938463463374607431768211456"},
		{most, "13407807929942597099574024998205846127479365820592393377723561443721764030073546976801874298166903427690031858186486050853753882811946569946433649006084095"},
		{least, "-13407807929942597099574024998205846127479365820592393377723561443721764030073546976801874298166903427690031858186486050853753882811946569946433649006084095"},
	} {
		if got := Text(c.a); got != c.want {
			t.Errorf("Text = %q; want %q", got, c.want)
		}
	}
}

// P7.5: powers of ten and the numbers next to them, with zeros inside of the text and at its end.
func TestTextOfPowers(t *testing.T) {
	for k := range 155 {
		zeros := strings.Repeat("0", k)
		l := []string{"1" + zeros}
		if k > 0 {
			l = append(l, strings.Repeat("9", k), "1"+zeros[1:]+"1", "7"+zeros[1:])
		}
		for _, s := range l {
			if got, neg := Text(num(s)), Text(num("-"+s)); got != s || neg != "-"+s {
				t.Errorf("Text = %q, %q; want %q with either sign", got, neg, s)
			}
		}
	}
}

// expectParse expects what P7.5 says of Parse, word by word.
func expectParse(t *testing.T, s string, base int) {
	t.Helper()
	got, e := Parse(s, base)
	want := new(big.Int)
	digits, wrong := "0123456789abcdef", false
	for i := range len(s) {
		c := s[i]
		if 'A' <= c && c <= 'F' {
			c += 'a' - 'A'
		}
		n := strings.IndexByte(digits, c)
		wrong = wrong || n < 0 || n >= base
		want.Mul(want, big.NewInt(int64(base))).Add(want, big.NewInt(int64(n)))
	}
	switch {
	case base != 2 && base != 8 && base != 10 && base != 16:
		expectError(t, got, e, api.ErrArg)
	case s == "":
		expectError(t, got, e, api.ErrCut)
	case wrong:
		expectError(t, got, e, api.ErrDigit)
	case want.BitLen() > 512:
		expectError(t, got, e, api.ErrOver)
	default:
		expectNumber(t, got, e, form(want))
	}
}

// P7.5
func TestParse(t *testing.T) {
	for _, c := range []struct {
		s    string
		base int
		want string
	}{
		{"0", 2, "0"}, {"0", 8, "0"}, {"0", 10, "0"}, {"0", 16, "0"}, {"101", 2, "5"}, {"17", 8, "15"}, {"19", 10, "19"}, {"1f", 16, "31"}, {"1F", 16, "31"}, {"fF", 16, "255"}, {"aBcDeF", 16, "11259375"},
		{"00", 10, "0"}, {"007", 8, "7"}, {"0010", 2, "2"}, {"00ff", 16, "255"}, {"10", 2, "2"}, {"10", 8, "8"}, {"10", 10, "10"}, {"10", 16, "16"},
		{"18446744073709551615", 10, "18446744073709551615"}, {"18446744073709551616", 10, "18446744073709551616"}, {"ffffffffffffffff", 16, "18446744073709551615"}, {"10000000000000000", 16, "18446744073709551616"},
		{strings.Repeat("0", 700) + "12", 10, "12"}, {strings.Repeat("0", 700), 2, "0"}, {strings.Repeat("0", 700) + "f", 16, "15"}, {strings.Repeat("0", 700) + "7", 8, "7"},
	} {
		got, e := Parse(c.s, c.base)
		expectNumber(t, got, e, num(c.want))
		expectParse(t, c.s, c.base)
	}
}

// P7.5: every text of at most two bytes, in each base and in wrong ones.
func TestParseEveryShortText(t *testing.T) {
	for _, base := range append(bases(), 0, 1, 3, 9, 11, 36) {
		expectParse(t, "", base)
		for x := range 256 {
			expectParse(t, string([]byte{byte(x)}), base)
			for y := range 256 {
				expectParse(t, string([]byte{byte(x), byte(y)}), base)
			}
		}
	}
}

// P7.5: every number in each base, in small and in capital letters, with zeros ahead.
func TestParseEveryNumber(t *testing.T) {
	for _, a := range magnitudes() {
		for _, base := range bases() {
			s := value(a).Text(base)
			for _, s := range []string{s, strings.ToUpper(s), "0" + s, strings.Repeat("0", 300) + s} {
				got, e := Parse(s, base)
				expectNumber(t, got, e, a)
			}
		}
	}
}

// P7.5: the longest text of a number that fits, the next number, and one digit more.
func TestParseLimit(t *testing.T) {
	for _, base := range bases() {
		s, over := power(512, -1).Text(base), power(512, 0).Text(base)
		for _, zeros := range []string{"", "0", strings.Repeat("0", 600)} {
			got, e := Parse(zeros+s, base)
			expectNumber(t, got, e, most)
			got, e = Parse(zeros+strings.ToUpper(s), base)
			expectNumber(t, got, e, most)
			for _, long := range []string{over, s + "0", s + "1", "1" + s, power(512, 1).Text(base), power(513, 0).Text(base), power(576, 0).Text(base), power(2000, 5).Text(base)} {
				got, e = Parse(zeros+long, base)
				expectError(t, got, e, api.ErrOver)
				expectParse(t, zeros+long, base)
			}
		}
	}
	got, e := Parse(strings.Repeat("9", 154), 10)
	expectNumber(t, got, e, num(strings.Repeat("9", 154)))
	got, e = Parse(strings.Repeat("9", 155), 10)
	expectError(t, got, e, api.ErrOver)
}

// P7.5: a wrong base comes first, whatever the text is.
func TestParseWrongBase(t *testing.T) {
	for _, base := range []int{0, 1, 3, 4, 7, 9, 11, 12, 15, 17, 32, 36, 64, 256, 1<<32 + 10, -1, -2, -8, -10, -16, math.MaxInt, math.MinInt, math.MinInt + 10} {
		for _, s := range []string{"", "0", "1", "10", "x", "-1", "_", "\x80", strings.Repeat("1", 600)} {
			got, e := Parse(s, base)
			expectError(t, got, e, api.ErrArg)
		}
	}
}

// P7.5: a byte that is no digit of the base, at the start, in the middle and at the end, even of a text that is too great.
func TestParseWrongDigit(t *testing.T) {
	for _, base := range bases() {
		got, e := Parse("", base)
		expectError(t, got, e, api.ErrCut)
		wrong := []string{"+", "-", " ", "_", ".", "g", "G", "x", "z", "Z", "/", ":", "@", "`", "\n", "\x00", "\x7f", "\x80", "\xb1", "\xff", "é", "１", strconv.FormatInt(int64(base), 17)}
		if base < 16 {
			wrong = append(wrong, "a", "F", "f")
		}
		for _, c := range wrong {
			for _, digits := range []string{"1", "10", strings.Repeat("0", 200), strings.Repeat("1", 1000)} {
				for _, s := range []string{c, c + digits, digits + c, digits[:len(digits)/2] + c + digits[len(digits)/2:]} {
					got, e := Parse(s, base)
					expectError(t, got, e, api.ErrDigit)
				}
			}
		}
	}
}

// P7.6: Text and Parse are inverse to each other.
func TestTextAndParse(t *testing.T) {
	g := generator(11)
	l := magnitudes()
	for i := range 5000 {
		a := g.number(i % 9)
		a.Neg = false
		l = append(l, a)
	}
	for _, a := range l {
		got, e := Parse(Text(a), 10)
		expectNumber(t, got, e, a)
	}
	for n := 1; n <= 154; n++ {
		for _, s := range []string{strings.Repeat("9", n), "1" + strings.Repeat("0", n-1), strings.Repeat("1234567890", 16)[:n], strings.Repeat("9000000000000000000", 9)[:n]} {
			a, e := Parse(s, 10)
			if Text(a) != s || e != nil {
				t.Errorf("Text of Parse(%q) = %q, %v", s, Text(a), e)
			}
		}
	}
}
