package number

import (
	"math/big"
	"slices"
	"strings"
	"testing"

	"cavil/api"
)

// P9.2: whole numbers in the four bases, with the prefix's letter small and great, with and without underscores.
func TestInt(t *testing.T) {
	for _, c := range []struct{ s, want string }{
		{"0", "0"}, {"7", "7"}, {"42", "42"}, {"1000", "1000"}, {"1_000", "1000"}, {"1_0_0_0", "1000"}, {"9876543210", "9876543210"}, {"18446744073709551616", "18446744073709551616"}, {"12_34", "1234"},
		{"00", "0"}, {"000", "0"}, {"007", "7"}, {"017", "15"}, {"0_7", "7"}, {"0_17", "15"}, {"01_7", "15"}, {"0_1_7", "15"}, {"0_0", "0"}, {"0600", "384"}, {"01777777777777777777777", "18446744073709551615"},
		{"0x0", "0"}, {"0x1F", "31"}, {"0X1f", "31"}, {"0xfF", "255"}, {"0x_fF", "255"}, {"0X_f_F", "255"}, {"0x_f", "15"}, {"0xaBcDeF", "11259375"}, {"0XAbCdEf", "11259375"}, {"0xab_cd", "43981"}, {"0x1e3", "483"}, {"0xe", "14"}, {"0x0b1", "177"}, {"0xb_b", "187"}, {"0x00ff", "255"}, {"0x_0_0", "0"},
		{"0b0", "0"}, {"0b101", "5"}, {"0B101", "5"}, {"0b_101", "5"}, {"0B1_0_1", "5"}, {"0b0001", "1"}, {"0B_1", "1"},
		{"0o0", "0"}, {"0o17", "15"}, {"0O17", "15"}, {"0o_17", "15"}, {"0O1_7", "15"}, {"0o007", "7"}, {"0O_7", "7"},
	} {
		expectInt(t, c.s, form(bigInt(c.want)), nil)
		expectIntByWords(t, c.s)
	}
}

// P9.2: the edges that have an error, by the error.
func TestIntErrors(t *testing.T) {
	for wrong, texts := range map[error][]string{
		api.ErrForm: {
			"", "_", "__", "_1", "1_", "1__0", "_0", "0_", "0__7", "1_000_", "_1_0", "0_x1", "0_b1", "0_o7", "0x_", "0X_", "0b_", "0B_", "0o_", "0O_", "0x__f", "0b__1", "0o__7", "0xf_", "0b1_", "0o7_", "0xf__f", "0x_f_",
			"0_xf", "_0x1", "1_a", "a_1", "1_f", "0_a", "0x1_g", "0xg_1", "0x_g", "0x_x", "0b_g", "0o_.", "0x1_.5", "0x1._5", "0b1_x", "1_.5", "1._5", "1_ 0", "1 _0", "1_+", "-_1", "1_\x80", "\xff_1", "x_", "0x_1é_2", "8_x", "08_",
		},
		api.ErrCut: {"0x", "0X", "0b", "0B", "0o", "0O"},
		api.ErrDigit: {
			"08", "09", "0_8", "018", "0_1_9", "0b2", "0b12", "0b_2", "0b_f", "0b1_f", "0b1_2", "0o8", "0o_8", "0o78", "0o7_8", "0o_a", "0o7_a", "0B9", "0O9", "0xg", "0xfg", "0Xz", "0xx", "1a", "1f", "a", "f", "F", "abc", "0a", "0f", "7f", "1_0a", "1.5", ".5", "5.", "1e3", "0e1",
			"0x1.8", "0b1.1", "0b1e1", "0b1e+1", "0o1e1", "-1", "+1", "-0", "0-1", "0x-1", "0x+f", " 1", "1 ", "0x 1", "1\n", "1\x00", "\x80", "1é", "１", "0x1１", "0d1", "0t1", "00x1", "0xx1", "1x1", "0x1p1", "x", "0x0x1", "0b0b1",
			// A byte that is no digit comes ahead of a number that does not fit.
			strings.Repeat("9", 300) + "a", "0x" + strings.Repeat("f", 300) + "g", "0b" + strings.Repeat("1", 600) + "2", "0o" + strings.Repeat("7", 300) + "8", "0" + strings.Repeat("7", 300) + "8",
		},
	} {
		for _, s := range texts {
			expectInt(t, s, api.Int{}, wrong)
			expectIntByWords(t, s)
		}
	}
}

// written are the ways to write digits after a prefix or without one: with zeros ahead, and with underscores between.
func written(digits string) []string {
	separated := strings.Join(strings.Split(digits, ""), "_")
	zeros := strings.Repeat("0", 600)
	return []string{digits, separated, digits[:1] + "_" + digits[1:], zeros + digits, zeros + "_" + separated}
}

// inBase are the texts of a number in a base, with each prefix that there is for it.
func inBase(v *big.Int, base int) (l []string) {
	digits := v.Text(base)
	if base == 10 {
		// With zeros ahead they would be octal digits.
		return written(digits)[:3]
	}
	for _, prefix := range map[int][]string{16: {"0x", "0X"}, 2: {"0b", "0B"}, 8: {"0o", "0O", "0"}}[base] {
		for _, s := range append(written(digits), written(strings.ToUpper(digits))...) {
			l = append(l, prefix+s, prefix+"_"+s)
		}
	}
	return l
}

// P9.2: numbers of all lengths, as they are written in each base.
func TestIntEveryBase(t *testing.T) {
	values := []*big.Int{bigInt("12345678987654321"), bigInt(strings.Repeat("9", 154)), bigInt("1" + strings.Repeat("0", 154))}
	for n := int64(16); n <= 70; n++ {
		values = append(values, big.NewInt(n))
	}
	for k := uint(5); k < 512; k += 13 {
		values = append(values, power(k, -1), power(k, 0), power(k, 1))
	}
	for _, v := range values {
		for _, base := range []int{2, 8, 10, 16} {
			for _, s := range inBase(v, base) {
				expectInt(t, s, form(v), nil)
			}
		}
	}
}

// P9.2: the greatest number that fits into 512 bits, and greater ones.
func TestIntLimit(t *testing.T) {
	for _, base := range []int{2, 8, 10, 16} {
		for _, v := range []*big.Int{power(512, -1), power(512, -2), power(511, 0)} {
			for _, s := range inBase(v, base) {
				expectInt(t, s, form(v), nil)
			}
		}
		for _, v := range []*big.Int{power(512, 0), power(512, 1), power(513, 0), power(513, -1), power(576, 0), power(1024, 0), power(3000, 7)} {
			for _, s := range inBase(v, base) {
				expectInt(t, s, api.Int{}, api.ErrOver)
				expectIntByWords(t, s)
			}
		}
	}
	// An underscore at a wrong place comes ahead of a number that does not fit.
	for _, s := range []string{strings.Repeat("9", 300) + "_", "_" + strings.Repeat("9", 300), "0x" + strings.Repeat("f", 300) + "_", "0b__" + strings.Repeat("1", 600), "0o7__" + strings.Repeat("7", 600)} {
		expectInt(t, s, api.Int{}, api.ErrForm)
	}
}

// P9.2: all short texts of the bytes that matter.
func TestIntEveryShortText(t *testing.T) {
	each("018aFxXbo_.g", 4, func(s string) { expectIntByWords(t, s) })
	each("01x_f", 6, func(s string) { expectIntByWords(t, s) })
	each("017b_2", 5, func(s string) { expectIntByWords(t, "0"+s) })
	each(everyByte(), 2, func(s string) { expectIntByWords(t, s) })
	for _, head := range []string{"0", "0_", "0x", "0X", "0b", "0B", "0o", "0O", "0x_", "0b_", "0o_", "1_", "7"} {
		for _, c := range []byte(everyByte()) {
			for _, tail := range []string{"", "1", "_1", "_", "f"} {
				expectIntByWords(t, head+string([]byte{c})+tail)
			}
		}
	}
}

// P9.2: a letter after a 0 that is no prefix.
func TestIntNoPrefix(t *testing.T) {
	for _, c := range "abcdefghijklmnopqrstuvwxyzABCDEFGHIJKLMNOPQRSTUVWXYZ" {
		if strings.ContainsRune("xXbBoO", c) {
			continue
		}
		for _, digits := range []string{"", "0", "1", "11", "1_1"} {
			expectInt(t, "0"+string(c)+digits, api.Int{}, api.ErrDigit)
		}
		expectInt(t, "0"+string(c)+"_1", api.Int{}, api.ErrForm)
	}
}

// P9.2: a byte of any value at each place of a literal, in place of the one there and between two.
func TestIntEveryByteAtEveryPlace(t *testing.T) {
	for _, s := range []string{"1_234", "0x_fA9", "0B1_01", "0o_17", "0_17"} {
		for i := range len(s) {
			for _, c := range []byte(everyByte()) {
				expectIntByWords(t, string(slices.Replace([]byte(s), i, i+1, c)))
				expectIntByWords(t, string(slices.Insert([]byte(s), i, c)))
			}
		}
	}
}

// P9.2: the texts that Go's library takes for an integer without a sign are those without an error.
func TestIntLikeTheLibrary(t *testing.T) {
	each("0179xBoA_", 5, func(s string) {
		v, ok := new(big.Int).SetString(s, 0)
		if n, e := Int(s); ok != (e == nil) || ok && n != form(v) {
			t.Errorf("Int(%q) = %v, %v; want %v", s, n, e, v)
		}
	})
}

// P9.2: long texts.
func TestIntLong(t *testing.T) {
	zeros := strings.Repeat("0", 1<<18)
	for _, s := range []string{zeros, zeros + "7", "0x" + zeros + "f", "0b_" + zeros + "1", "0" + strings.Repeat("_0", 1<<18)} {
		expectIntByWords(t, s)
	}
	expectInt(t, zeros+"8", api.Int{}, api.ErrDigit)
	expectInt(t, strings.Repeat("9", 1<<18), api.Int{}, api.ErrOver)
	expectInt(t, strings.Repeat("1_", 1<<18), api.Int{}, api.ErrForm)
	expectInt(t, strings.Repeat("_", 1<<18), api.Int{}, api.ErrForm)
}
