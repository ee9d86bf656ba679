package number

import (
	"encoding/binary"
	"math"
	"math/big"
	"regexp"
	"strconv"
	"strings"
	"testing"

	"cavil/api"
	"cavil/sample"
)

// form is the number with a value of at most 512 bits that is not negative.
func form(v *big.Int) (a api.Int) {
	var bytes [64]byte
	v.FillBytes(bytes[:])
	for i := range a.W {
		a.W[i] = binary.BigEndian.Uint64(bytes[56-8*i:])
	}
	return a
}

// bigInt is the number with a decimal text.
func bigInt(text string) *big.Int {
	v, ok := new(big.Int).SetString(text, 10)
	if !ok {
		panic(text)
	}
	return v
}

// power is 2^k + d.
func power(k uint, d int64) *big.Int {
	v := new(big.Int).Lsh(big.NewInt(1), k)
	return v.Add(v, big.NewInt(d))
}

// rat is the ratio with a decimal text, in lowest terms.
func rat(text string) api.Rat {
	v, ok := new(big.Rat).SetString(text)
	if !ok {
		panic(text)
	}
	return api.Rat{N: form(v.Num()), D: form(v.Denom())}
}

// whole is the ratio n / 1.
func whole(n api.Int) api.Rat { return api.Rat{N: n, D: api.Int{W: [8]uint64{1}}} }

// each calls f with all texts of at most n bytes of an alphabet.
func each(alphabet string, n int, f func(s string)) {
	var grow func(s string)
	grow = func(s string) {
		f(s)
		for i := 0; i < len(alphabet) && len(s) < n; i++ {
			grow(s + alphabet[i:i+1])
		}
	}
	grow("")
}

// everyByte is all bytes.
func everyByte() string {
	b := make([]byte, 256)
	for i := range b {
		b[i] = byte(i)
	}
	return string(b)
}

// parse is what P7.5 says of a base that there is, with numbers without bounds.
func parse(digits string, base int) (*big.Int, error) {
	if digits == "" {
		return nil, api.ErrCut
	}
	if strings.Trim(strings.ToLower(digits), "0123456789abcdef"[:base]) != "" {
		return nil, api.ErrDigit
	}
	v, _ := new(big.Int).SetString(digits, base)
	if v.BitLen() > 512 {
		return nil, api.ErrOver
	}
	return v, nil
}

var (
	prefixed  = regexp.MustCompile(`^0[xXbBoO]`)
	loose     = regexp.MustCompile(`^_|_$|__|[^0-9_]_|_[^0-9_]`)
	looseThen = regexp.MustCompile(`_$|__|[^0-9a-fA-F_]_|_[^0-9a-fA-F_]`)
)

// intByWords is what P9.2 says, word by word.
func intByWords(s string) (api.Int, error) {
	base, digits, wrong := 10, s, s == "" || loose.MatchString(s)
	if prefixed.MatchString(s) {
		base, digits = map[byte]int{'x': 16, 'b': 2, 'o': 8}[s[1]|0x20], s[2:]
		wrong = looseThen.MatchString(digits)
	} else if len(s) > 1 && s[0] == '0' {
		base, digits = 8, s[1:]
	}
	if wrong {
		return api.Int{}, api.ErrForm
	}
	v, e := parse(strings.ReplaceAll(digits, "_", ""), base)
	if e != nil {
		return api.Int{}, e
	}
	return form(v), nil
}

var floats = regexp.MustCompile(strings.ReplaceAll(`^(?:(D)(\.)(D)?|()(\.)(D)|(D)()())(?:[eE]([+-]?)(D))?$`, "D", `[0-9]+(?:_[0-9]+)*`))

// floatByWords is what P9.3 says, word by word.
func floatByWords(s string) (api.Rat, error) {
	m := floats.FindStringSubmatch(s)
	if m == nil || m[2]+m[5] == "" && m[11] == "" {
		return api.Rat{}, api.ErrForm
	}
	for i := range m {
		m[i] = strings.ReplaceAll(m[i], "_", "")
	}
	before, after, sign, exponent := m[1]+m[7], m[3]+m[6], m[10], m[11]
	v, e := parse(before+after, 10)
	if e != nil {
		return api.Rat{}, e
	}
	if len(exponent) > 5 {
		return api.Rat{}, api.ErrOver
	}
	exp, _ := strconv.Atoi(exponent)
	if sign == "-" {
		exp = -exp
	}
	return scaled(v, exp-len(after))
}

// scaled is what P8.4 says of a whole number, base 10 and an exponent, with numbers without bounds.
func scaled(n *big.Int, exp int) (api.Rat, error) {
	if exp > 1000 || exp < -1000 {
		return api.Rat{}, api.ErrOver
	}
	v := new(big.Rat).SetInt(n)
	for range max(exp, -exp) {
		n, d := new(big.Int).Set(v.Num()), new(big.Int).Set(v.Denom())
		if exp > 0 {
			n.Mul(n, big.NewInt(10))
		} else {
			d.Mul(d, big.NewInt(10))
		}
		if n.BitLen() > 512 || d.BitLen() > 512 {
			return api.Rat{}, api.ErrOver
		}
		v.SetFrac(n, d)
	}
	return api.Rat{N: form(v.Num()), D: form(v.Denom())}, nil
}

// valueByWords is what P9.4 says, word by word.
func valueByWords(kind int, s string) (api.Rat, error) {
	switch kind {
	case 2:
		n, e := intByWords(s)
		if e != nil {
			return api.Rat{}, e
		}
		return whole(n), nil
	case 3:
		return floatByWords(s)
	}
	return api.Rat{}, api.ErrKind
}

// expectInt expects a number or an error of Int, and of Value too.
func expectInt(t *testing.T, s string, want api.Int, wrong error) {
	t.Helper()
	if n, e := Int(s); n != want || e != wrong {
		t.Errorf("Int(%s) = %v, %v; want %v, %v", sample.Short(s), n, e, want, wrong)
	}
	ratio := api.Rat{}
	if wrong == nil {
		ratio = whole(want)
	}
	if r, e := Value(2, s); r != ratio || e != wrong {
		t.Errorf("Value(2, %s) = %v, %v; want %v, %v", sample.Short(s), r, e, ratio, wrong)
	}
}

// expectIntByWords expects of Int what P9.2 says.
func expectIntByWords(t *testing.T, s string) {
	t.Helper()
	want, wrong := intByWords(s)
	expectInt(t, s, want, wrong)
}

// expectFloat expects a ratio or an error of Float, and of Value too.
func expectFloat(t *testing.T, s string, want api.Rat, wrong error) {
	t.Helper()
	if r, e := Float(s); r != want || e != wrong {
		t.Errorf("Float(%s) = %v, %v; want %v, %v", sample.Short(s), r, e, want, wrong)
	}
	if r, e := Value(3, s); r != want || e != wrong {
		t.Errorf("Value(3, %s) = %v, %v; want %v, %v", sample.Short(s), r, e, want, wrong)
	}
}

// expectFloatByWords expects of Float what P9.3 says.
func expectFloatByWords(t *testing.T, s string) {
	t.Helper()
	want, wrong := floatByWords(s)
	expectFloat(t, s, want, wrong)
}

// wrongTexts are no literals of either kind.
func wrongTexts() []string {
	return []string{
		"", " ", "x", "e", "a", "Z", "_", "__", ".", "..", "+", "-", "+1", "-1", "+0", "-0x1", "+1.5", "-1.5", "-.5", "+1e1", "--1", " 1", "1 ", "1 0", " 1.5", "1.5 ", "1. 5", "1 .5",
		"1,5", "1;", "(1)", "'1'", "1\n", "\n1", "1\x00", "\x001", "\x80", "1\x80", "\xff1", "1é", "é", "１", "1１", "٣", "1.５", "1é5", "1u", "1f", "1.5f", "1L", "1i", "1.5i", "0xg", "0x-1", "0x+1", "0x 1", "0b-1", "0o+7",
		"0d1", "0D1", "0t1", "0h1", "0a", "0f", "0z9", "0p1", "00x1", "1x1", "10x1", "0xx1", "0x0x1", "x1", "1e1e1", "1ee1", "0x1p1", "0x1.8p1", "1p1", "0x1.5", "0b1.1", "0o1.7", "0x.5", "NaN", "Inf", "1/2",
	}
}

// P9.4: the kinds of literals, with both kinds of text and with none.
func TestValue(t *testing.T) {
	for _, c := range []struct {
		kind  int
		s     string
		want  string
		wrong error
	}{
		{api.TkInt, "42", "42", nil}, {api.TkInt, "0", "0", nil}, {api.TkInt, "0x_fF", "255", nil}, {api.TkInt, "017", "15", nil}, {api.TkInt, "0b11", "3", nil},
		{api.TkInt, "18446744073709551616", "18446744073709551616", nil}, {api.TkInt, "0xe", "14", nil}, {api.TkInt, "0b1e1", "", api.ErrDigit},
		{api.TkInt, "", "", api.ErrForm}, {api.TkInt, "1.5", "", api.ErrDigit}, {api.TkInt, "1e3", "", api.ErrDigit}, {api.TkInt, "08", "", api.ErrDigit}, {api.TkInt, "0x", "", api.ErrCut},
		{api.TkInt, "0x1" + strings.Repeat("0", 128), "", api.ErrOver},
		{api.TkFloat, "1.5", "3/2", nil}, {api.TkFloat, "1e3", "1000", nil}, {api.TkFloat, ".25", "1/4", nil}, {api.TkFloat, "1_0.25e1", "205/2", nil}, {api.TkFloat, "0.0", "0", nil}, {api.TkFloat, "08.5", "17/2", nil},
		{api.TkFloat, "", "", api.ErrForm}, {api.TkFloat, "42", "", api.ErrForm}, {api.TkFloat, "0", "", api.ErrForm}, {api.TkFloat, "0x_fF", "", api.ErrForm}, {api.TkFloat, "1e155", "", api.ErrOver},
	} {
		want := api.Rat{}
		if c.wrong == nil {
			want = rat(c.want)
		}
		if r, e := Value(c.kind, c.s); r != want || e != c.wrong {
			t.Errorf("Value(%d, %s) = %v, %v; want %s, %v", c.kind, sample.Short(c.s), r, e, c.want, c.wrong)
		}
	}
}

// P9.4: every other kind, and what is no kind at all, with right and with wrong texts.
func TestValueOfOtherKinds(t *testing.T) {
	kinds := []int{math.MinInt, math.MinInt + 1, math.MinInt + 2, math.MinInt + 3, math.MaxInt, math.MaxInt - 1, -1 << 32, 1<<32 + 2, 1<<32 + 3, 1<<16 + 2, 1<<8 + 3}
	for kind := -100; kind <= 300; kind++ {
		kinds = append(kinds, kind)
	}
	texts := append(wrongTexts(), "0", "1", "42", "0x1F", "1.5", "1e3", "name", "'a'", `"1"`, "1e999", strings.Repeat("9", 200))
	for _, kind := range kinds {
		if kind == 2 || kind == 3 {
			continue
		}
		for _, s := range texts {
			if r, e := Value(kind, s); r != (api.Rat{}) || e != api.ErrKind {
				t.Errorf("Value(%d, %s) = %v, %v; want ErrKind", kind, sample.Short(s), r, e)
			}
		}
	}
}

// P9.2, P9.3, P9.4: texts that are no literals, of either kind.
func TestWrongTexts(t *testing.T) {
	for _, s := range wrongTexts() {
		if _, e := Int(s); e == nil {
			t.Errorf("Int(%s) has no error", sample.Short(s))
		}
		expectFloat(t, s, api.Rat{}, api.ErrForm)
		expectIntByWords(t, s)
		expectFloatByWords(t, s)
	}
}
