package number

import (
	"math/big"
	"slices"
	"strconv"
	"strings"
	"testing"

	"cavil/api"
	"cavil/sample"
)

// P9.3: a dot alone, an exponent alone, and both, with and without a sign in the exponent.
func TestFloat(t *testing.T) {
	for _, c := range []struct{ s, want string }{
		{"1.5", "3/2"}, {".5", "1/2"}, {"5.", "5"}, {"3.", "3"}, {".25", "1/4"}, {"0.5", "1/2"}, {"00.5", "1/2"}, {"010.", "10"}, {"08.5", "17/2"}, {"09.", "9"}, {"12.375", "99/8"}, {"3.1", "31/10"}, {"2.0", "2"}, {"2.50", "5/2"}, {".125", "1/8"}, {"1.0000", "1"},
		{"1e3", "1000"}, {"1E3", "1000"}, {"1e+3", "1000"}, {"1E+3", "1000"}, {"1e-3", "1/1000"}, {"1E-3", "1/1000"}, {"5e0", "5"}, {"5e-0", "5"}, {"5e+0", "5"}, {"25e-2", "1/4"}, {"08e1", "80"}, {"0e1", "0"}, {"7e00", "7"}, {"7e01", "70"}, {"7e-01", "7/10"}, {"0010e2", "1000"},
		{"1.5e3", "1500"}, {"1.5E+3", "1500"}, {"2.5e-1", "1/4"}, {"2.5E-1", "1/4"}, {".5e1", "5"}, {".5e-1", "1/20"}, {"5.e1", "50"}, {"5.e-1", "1/2"}, {"5.E+1", "50"}, {"0.e+0", "0"}, {"1.25e2", "125"}, {"1.25e1", "25/2"}, {".05e2", "5"}, {"123.456e3", "123456"}, {"123.456e-3", "15432/125000"},
		{"1_0.25e1", "205/2"}, {"1_0.0_1", "1001/100"}, {"1e1_0", "10000000000"}, {"1_0e1", "100"}, {"1_0e-1_0", "1/1000000000"}, {"1_2.3_4e0_1", "617/5"}, {".1_2", "3/25"}, {"1_2.", "12"}, {"0_1.5", "3/2"}, {"0_8.5", "17/2"}, {"0_0e0_0", "0"},
		{"0.0", "0"}, {"0e5", "0"}, {"0.0e-5", "0"}, {".0", "0"}, {"0.", "0"}, {"00.00e00", "0"}, {"0e-0", "0"},
	} {
		expectFloat(t, c.s, rat(c.want), nil)
		expectFloatByWords(t, c.s)
	}
}

// P9.3: texts that do not have the form.
func TestFloatForm(t *testing.T) {
	long := strings.Repeat("9", 400)
	for _, s := range []string{
		"", ".", "e", "E", "_", "+", "-", "0", "1", "42", "1_0", "017", "0x1F", ".e1", ".E+1", "e1", "E5", "e+1", "1e", "1E", "1e+", "1e-", "1E+", "1.5e", "1.5e+", ".5e-", "5.e", "1.e+", "1e+-1", "1e-+1", "1e++1", "1e--1", "1e+1+1", "1e1+", "1e1-", "1e1-1",
		"1.2.3", "1..2", "..1", "1..", ".1.", ".5.5", "1e5.", "1e5.5", "1e.5", "1e+.5", "1e1e1", "1ee1", "1e1E1", "1Ee1", "1.5e1e",
		"1_.5", "1._5", "1.5_", "1e_5", "1e5_", "_1.5", "_.5", "._5", ".5_", "5_.", "5._", "1_e5", "1.5_e5", "1.e_5", "1e+_5", "1e_+5", "1e-5_", "1__0.5", "1.5__5", "1e1__0", "._", "_.", "_e1", "1e_", "1_._5", "0x_1.5", "_",
		"1.5x", "1.x", "x.5", "1.a", "a.5", "1.5f", "1e5f", "1ea", "1ex1", "1e0x1", "0x1.5", "0x1e1", "0x1e+1", "0b1.1", "0b1e1", "0o1.1", "0o1e1", "0X.5", "0x1p-2", "1p3",
		"+1.5", "-1.5", "-.5", "+5.", "-1e5", " 1.5", "1.5 ", "1 .5", "1. 5", "1e 5", "1e5 ", "1.5\n", "1.5\x00", "1.\x80", "\xff.5", "1.é", "1.５", "1e５", "1·5", "1,5",
		// All that is wrong with the form comes ahead of what does not fit.
		long, long + ".e", long + "e+", long + ".5x", long + "_.5", long + ".5_", long + "..", "1e" + long + "x", "1e" + long + "_", "1e123456x", "1e1234567.", "1e_123456", ".e123456", "e123456", long + "e" + long + "e", "1e-" + long + "-",
	} {
		expectFloat(t, s, api.Rat{}, api.ErrForm)
		expectFloatByWords(t, s)
	}
}

// P9.3: an exponent of five digits and of six, with and without zeros ahead, with underscores, of either sign.
func TestFloatDigitsOfExponent(t *testing.T) {
	for _, c := range []struct {
		s, want string
	}{
		{"3e00000", "3"}, {"3e00001", "30"}, {"3e00010", "30000000000"}, {"3e+00002", "300"}, {"3e-00001", "3/10"}, {"3e0_0_0_0_1", "30"}, {"3e0_0001", "30"}, {"3e-0000_2", "3/100"}, {"3e+0000_0", "3"}, {"3.5e00001", "35"}, {".5e00001", "5"}, {"0e01000", "0"}, {"0e-0_1000", "0"},
		{"3e000000", ""}, {"3e000001", ""}, {"3e-000001", ""}, {"3e+000001", ""}, {"3e0_0_0_0_0_1", ""}, {"3e00_0001", ""}, {"3e-000000", ""}, {"0e000000", ""}, {"0.0e000000", ""}, {"0e-0_00_000", ""}, {"3.5e000001", ""}, {"3e0000000000", ""}, {"3e" + strings.Repeat("0", 3000) + "1", ""},
		{"3e12345", ""}, {"3e-12345", ""}, {"3e99999", ""}, {"3e-99999", ""}, {"0e99999", ""}, {"0e-99999", ""}, {"0e10000", ""}, {"3e100000", ""}, {"3e-100000", ""}, {"3e123456", ""}, {"0e123456", ""}, {"3e+999999", ""}, {"0e1_0_0_0_0_0", ""},
		{"3e9223372036854775807", ""}, {"3e-9223372036854775808", ""}, {"3e18446744073709551616", ""}, {"3e18446744073709551617", ""}, {"3e4294967296", ""}, {"0e4294967297", ""}, {"3e" + strings.Repeat("9", 3000), ""}, {"3e-" + strings.Repeat("9", 3000), ""}, {"0e" + strings.Repeat("9", 155), ""},
	} {
		if c.want == "" {
			expectFloat(t, c.s, api.Rat{}, api.ErrOver)
		} else {
			expectFloat(t, c.s, rat(c.want), nil)
		}
		expectFloatByWords(t, c.s)
	}
}

// P9.3: where the steps of ratio.Scale just fit, and where they just do not.
func TestFloatScale(t *testing.T) {
	zeros := func(n int) string { return strings.Repeat("0", n) }
	for _, c := range []struct{ fits, over string }{
		{"1e154", "1e155"}, {"1e-154", "1e-155"}, {"13e153", "14e153"}, {"1.3407e154", "1.3408e154"}, {"13.407e153", "13.408e153"}, {".13407e155", ".13408e155"}, {"0.1e155", "0.1e156"}, {"10e153", "10e154"}, {"9e153", "9e154"},
		{"1." + zeros(154), "1." + zeros(155)}, {"0." + zeros(153) + "1", "0." + zeros(154) + "1"}, {"." + zeros(153) + "7", "." + zeros(154) + "7"}, {"5e-154", "5e-155"}, {"2e-154", "2e-155"}, {"10e-155", "10e-156"}, {"1" + zeros(154) + "e-308", "1" + zeros(154) + "e-309"},
		{"1.5e-153", "1.5e-154"}, {"0.0000000001e164", "0.0000000001e165"}, {"1e00154", "1e00155"}, {"1_0e1_5_3", "1_0e1_5_4"}, {zeros(300) + "1e154", zeros(300) + "1e155"},
	} {
		if _, e := Float(c.fits); e != nil {
			t.Errorf("Float(%s) has an error: %v", sample.Short(c.fits), e)
		}
		expectFloatByWords(t, c.fits)
		expectFloat(t, c.over, api.Rat{}, api.ErrOver)
		expectFloatByWords(t, c.over)
	}
	one := form(big.NewInt(1))
	expectFloat(t, "1e154", whole(form(bigInt("1"+zeros(154)))), nil)
	expectFloat(t, "1e-154", api.Rat{N: one, D: form(bigInt("1" + zeros(154)))}, nil)
	expectFloat(t, "1"+zeros(154)+"e-308", api.Rat{N: one, D: form(bigInt("1" + zeros(154)))}, nil)
	for exp := -317; exp <= 317; exp += 3 {
		for _, digits := range []string{"1", "7.25", ".00064", "1024", "1" + zeros(100), "0." + zeros(100) + "3"} {
			expectFloatByWords(t, digits+"e"+strconv.Itoa(exp))
		}
	}
}

// P9.3: where the exponent less the digits after the dot is 1000, -1000, and one more or less.
func TestFloatThousand(t *testing.T) {
	zeros := strings.Repeat("0", 1000)
	for _, s := range []string{"0e1000", "0e-1000", "0.0e1001", "0.0e-999", ".00e1002", ".00e-998", "0." + zeros, "." + zeros, "0.0" + zeros + "e1", "0.00" + zeros + "e2", zeros + "." + zeros, "0." + zeros + "e2000", "0." + zeros + "e+00000", "0e01000", "0.e1_000", "0.0_0e-9_98"} {
		expectFloat(t, s, rat("0"), nil)
		expectFloatByWords(t, s)
	}
	for _, s := range []string{"0e1001", "0e-1001", "0.0e1002", "0.0e-1000", ".00e1003", ".00e-999", "0.0" + zeros, ".0" + zeros, "0.00" + zeros + "e1", "0." + zeros + "e-1", "0." + zeros + "e2001", "0e01001", "0.e1_001", "0.0_0e-9_99"} {
		expectFloat(t, s, api.Rat{}, api.ErrOver)
		expectFloatByWords(t, s)
	}
	for _, s := range []string{"1e1000", "1e1001", "1e-1000", "1e-1001", "1.5e1001", "1.5e-999", "1.5e1002", "1.5e-1000", "1." + zeros, "0." + zeros + "1"} {
		expectFloat(t, s, api.Rat{}, api.ErrOver)
		expectFloatByWords(t, s)
	}
	// The digits of the exponent are none of those after the dot.
	expectFloat(t, "0."+zeros+"e99", rat("0"), nil)
	expectFloat(t, "0."+zeros+"1e1001", rat("1"), nil)
}

// P9.3: digits without the dot that just fit into 512 bits, and that just do not, wherever the dot stands.
func TestFloatDigitsFit(t *testing.T) {
	most, over := power(512, -1).Text(10), power(512, 0).Text(10)
	for _, at := range []int{0, 1, 2, 19, 20, 77, 128, 153, 154, 155} {
		for _, exponent := range []string{"", "e0", "e" + strconv.Itoa(len(most)-at), "e-1", "e1"} {
			expectFloatByWords(t, most[:at]+"."+most[at:]+exponent)
			s := over[:at] + "." + over[at:] + exponent
			expectFloat(t, s, api.Rat{}, api.ErrOver)
			expectFloatByWords(t, s)
		}
	}
	expectFloat(t, most+"e0", whole(form(power(512, -1))), nil)
	expectFloat(t, most+".", whole(form(power(512, -1))), nil)
	expectFloat(t, strings.Repeat("0", 500)+most+".", whole(form(power(512, -1))), nil)
	expectFloat(t, "."+most+"e155", whole(form(power(512, -1))), nil)
	for _, s := range []string{over + "e0", over + ".", over + "e-155", over + "e-10", strings.Repeat("9", 3000) + "e-2999", strings.Repeat("9", 3000) + ".", "." + strings.Repeat("9", 3000), "1." + strings.Repeat("0", 155), strings.Join(strings.Split(over, ""), "_") + ".", over + "e-1000", over + "e123456"} {
		expectFloat(t, s, api.Rat{}, api.ErrOver)
		expectFloatByWords(t, s)
	}
}

// P9.3: all short texts of the bytes that matter.
func TestFloatEveryShortText(t *testing.T) {
	each("03.eE_+-", 5, func(s string) { expectFloatByWords(t, s) })
	each("15._e", 6, func(s string) { expectFloatByWords(t, s) })
	each("0x1e.aB", 4, func(s string) { expectFloatByWords(t, s) })
	each(everyByte(), 2, func(s string) { expectFloatByWords(t, s) })
}

// P9.3: a byte of any value at each place of a literal, in place of the one there and between two.
func TestFloatEveryByteAtEveryPlace(t *testing.T) {
	for _, s := range []string{"1_2.3_4e+1_0", ".5", "5.", "1e5", "0.25E-3"} {
		for i := range len(s) {
			for _, c := range []byte(everyByte()) {
				expectFloatByWords(t, string(slices.Replace([]byte(s), i, i+1, c)))
				expectFloatByWords(t, string(slices.Insert([]byte(s), i, c)))
			}
		}
		for _, c := range []byte(everyByte()) {
			expectFloatByWords(t, s+string([]byte{c}))
		}
	}
}

// P9.3: long texts.
func TestFloatLong(t *testing.T) {
	zeros := strings.Repeat("0", 1<<18)
	expectFloat(t, zeros+"1.5", rat("3/2"), nil)
	expectFloat(t, zeros+"1_2e1", rat("120"), nil)
	expectFloat(t, "0."+zeros, api.Rat{}, api.ErrOver)
	expectFloat(t, "0."+zeros+"e99999", api.Rat{}, api.ErrOver)
	expectFloat(t, "1e"+zeros, api.Rat{}, api.ErrOver)
	expectFloat(t, strings.Repeat("9", 1<<18)+".", api.Rat{}, api.ErrOver)
	expectFloat(t, strings.Repeat("9", 1<<18)+".e", api.Rat{}, api.ErrForm)
	expectFloat(t, strings.Repeat("1.", 1<<18), api.Rat{}, api.ErrForm)
	expectFloat(t, strings.Repeat("_", 1<<18)+".5", api.Rat{}, api.ErrForm)
}
