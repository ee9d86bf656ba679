package konst

import (
	"math"
	"math/big"
	"testing"
	"unicode/utf8"

	"cavil/api"
)

// basics are all basic types, numbers around them, and the largest ones.
func basics() []int {
	l := []int{math.MinInt, math.MinInt + api.BkInt, -1 << 32, 1<<32 + api.BkInt, 1<<8 + api.BkString, 100, math.MaxInt}
	for basic := -api.UntypedNil; basic <= api.UntypedNil+3; basic++ {
		l = append(l, basic)
	}
	return l
}

// limits are the least and the greatest value of an integer type, as the chapter has them; ok is false for every other type.
func limits(basic int) (least, greatest *big.Int, ok bool) {
	switch basic {
	case api.BkInt, api.BkInt64:
		return new(big.Int).Neg(power(63, 0)), power(63, -1), true
	case api.BkInt8:
		return big.NewInt(-128), big.NewInt(127), true
	case api.BkInt32:
		return new(big.Int).Neg(power(31, 0)), power(31, -1), true
	case api.BkUint, api.BkUint64:
		return big.NewInt(0), power(64, -1), true
	case api.BkUint8:
		return big.NewInt(0), big.NewInt(255), true
	case api.BkUint32:
		return big.NewInt(0), power(32, -1), true
	}
	return nil, nil, false
}

// fitsByWords is what P12.6 says of a valid constant, word by word.
func fitsByWords(c api.Const, basic int) error {
	bools := basic == api.BkBool || basic == api.UntypedBool
	texts := basic == api.BkString || basic == api.UntypedString
	numbers := basic >= api.BkInt && basic <= api.UntypedFloat && !bools && !texts
	if !(c.Kind == 1 && bools || c.Kind == 2 && texts || c.Kind >= 3 && numbers) {
		return api.ErrKind
	}
	least, greatest, ofIntegers := limits(basic)
	n, d := parts(c)
	if (ofIntegers || basic == api.UntypedInt || basic == api.UntypedRune) && d.Cmp(big.NewInt(1)) != 0 {
		return api.ErrArg
	}
	if ofIntegers && (n.Cmp(least) < 0 || n.Cmp(greatest) > 0) {
		return api.ErrOver
	}
	return nil
}

// convertByWords is what P12.7 says of Convert of a valid constant, word by word.
func convertByWords(c api.Const, basic int) (api.Const, error) {
	if n, _ := parts(c); (c.Kind == 3 || c.Kind == 4) && basic == api.BkString {
		if n.IsInt64() && n.Int64() == int64(int32(n.Int64())) && utf8.ValidRune(rune(n.Int64())) {
			return words(string(rune(n.Int64()))), nil
		}
		return words("\xef\xbf\xbd"), nil
	}
	if e := fitsByWords(c, basic); e != nil {
		return none, e
	}
	if _, _, ofIntegers := limits(basic); ofIntegers || basic == api.UntypedInt {
		c.Kind = 3
	}
	if basic == api.UntypedRune {
		c.Kind = 4
	}
	if basic == api.BkFloat64 || basic == api.UntypedFloat {
		c.Kind = 5
	}
	return c, nil
}

// notByWords is what P12.7 says of Not of a valid constant, word by word.
func notByWords(a api.Const, basic int) (api.Const, error) {
	if a.Kind != 3 && a.Kind != 4 {
		return none, api.ErrKind
	}
	switch basic {
	case api.BkUint, api.BkUint8, api.BkUint32, api.BkUint64:
		if e := fitsByWords(a, basic); e != nil {
			return none, e
		}
		_, greatest, _ := limits(basic)
		n, d := parts(a)
		return made(a.Kind, greatest.Sub(greatest, n), d)
	}
	return unaryByWords(api.TkXor, a)
}

// expectFits expects an answer of Fits.
func expectFits(t *testing.T, c api.Const, basic int, want error) {
	t.Helper()
	if e := Fits(c, basic); e != want {
		t.Errorf("Fits(%s, %d) = %v; want %v", show(c), basic, e, want)
	}
}

// expectConvert expects a constant or an error of Convert.
func expectConvert(t *testing.T, c api.Const, basic int, want api.Const, wrong error) {
	t.Helper()
	got, e := Convert(c, basic)
	call{"Convert", basic, []api.Const{c}}.expect(t, got, e, want, wrong)
}

// expectNot expects a constant or an error of Not.
func expectNot(t *testing.T, a api.Const, basic int, want api.Const, wrong error) {
	t.Helper()
	got, e := Not(a, basic)
	call{"Not", basic, []api.Const{a}}.expect(t, got, e, want, wrong)
}

// edges are the ends of each integer type, the numbers beside them, and their fractions, of all kinds.
func edges() []api.Const {
	var l []api.Const
	for _, k := range []uint{0, 7, 8, 15, 16, 31, 32, 63, 64, 65, 128} {
		for d := int64(-2); d <= 2; d++ {
			for _, v := range []*big.Int{power(k, d), new(big.Int).Neg(power(k, d))} {
				text := v.String()
				l = append(l, integer(text), letter(text), float(text))
				if v.Bit(0) == 1 {
					l = append(l, float(text+"/2"))
				}
			}
		}
	}
	return l
}

// P12.6, P12.7, P12.9: each constant by each type, and by what is none.
func TestBasicTypesOfEveryConstant(t *testing.T) {
	for _, c := range append(valid(), edges()...) {
		for _, basic := range basics() {
			expectFits(t, c, basic, fitsByWords(c, basic))
			want, wrong := convertByWords(c, basic)
			expectConvert(t, c, basic, want, wrong)
			want, wrong = notByWords(c, basic)
			expectNot(t, c, basic, want, wrong)
		}
	}
}

// P12.6: the ends of each integer type, and one beyond.
func TestFitsEnds(t *testing.T) {
	for _, c := range []struct {
		basic                          int
		least, greatest, under, beyond string
	}{
		{api.BkInt, "-9223372036854775808", "9223372036854775807", "-9223372036854775809", "9223372036854775808"}, {api.BkInt64, "-9223372036854775808", "9223372036854775807", "-9223372036854775809", "9223372036854775808"},
		{api.BkInt8, "-128", "127", "-129", "128"}, {api.BkInt32, "-2147483648", "2147483647", "-2147483649", "2147483648"},
		{api.BkUint, "0", "18446744073709551615", "-1", "18446744073709551616"}, {api.BkUint64, "0", "18446744073709551615", "-1", "18446744073709551616"},
		{api.BkUint8, "0", "255", "-1", "256"}, {api.BkUint32, "0", "4294967295", "-1", "4294967296"},
	} {
		for kind := 3; kind <= 5; kind++ {
			for _, text := range []string{c.least, c.greatest, "0", "1", "100"} {
				expectFits(t, of(kind, text), c.basic, nil)
			}
			for _, text := range []string{c.under, c.beyond, near(64, 1), near(65, 0), below(128, 0), near(512, -1), below(512, -1)} {
				expectFits(t, of(kind, text), c.basic, api.ErrOver)
			}
		}
		// Being whole comes ahead of the range.
		for _, text := range []string{"1/2", "-1/2", near(512, -1) + "/2", below(512, -1) + "/2", "1/" + near(512, -1)} {
			expectFits(t, float(text), c.basic, api.ErrArg)
		}
	}
}

// P12.6: the types of numbers that have no range.
func TestFitsWithoutRange(t *testing.T) {
	for _, basic := range []int{api.UntypedInt, api.UntypedRune, api.BkFloat64, api.UntypedFloat} {
		for _, text := range []string{"0", "-1", near(64, 0), near(512, -1), below(512, -1)} {
			for kind := 3; kind <= 5; kind++ {
				expectFits(t, of(kind, text), basic, nil)
			}
		}
		for _, text := range fractionTexts() {
			want := error(nil)
			if basic == api.UntypedInt || basic == api.UntypedRune {
				want = api.ErrArg
			}
			expectFits(t, float(text), basic, want)
		}
	}
}

// P12.6: each kind by types of the other ones, and by what is no type of constants.
func TestFitsWrongKinds(t *testing.T) {
	own := map[int][]int{1: {api.BkBool, api.UntypedBool}, 2: {api.BkString, api.UntypedString}}
	for kind, c := range map[int]api.Const{1: boolean(true), 2: words("1"), 3: integer("1"), 4: letter("97"), 5: float("1/2")} {
		for _, basic := range []int{0, -1, api.UntypedNil, api.UntypedNil + 1, math.MaxInt, math.MinInt, -api.BkInt} {
			expectFits(t, c, basic, api.ErrKind)
		}
		for of, l := range own {
			for _, basic := range l {
				want := error(api.ErrKind)
				if of == kind {
					want = nil
				}
				expectFits(t, c, basic, want)
			}
		}
		for basic := api.BkInt; basic <= api.BkFloat64 && kind < 3; basic++ {
			expectFits(t, c, basic, api.ErrKind)
		}
		for basic := api.UntypedInt; basic <= api.UntypedFloat && kind < 3; basic++ {
			expectFits(t, c, basic, api.ErrKind)
		}
	}
}

// P12.7: the encodings of runes of each length, and of fffd for numbers that are none.
func TestConvertToString(t *testing.T) {
	for text, want := range map[string]string{
		"0": "\x00", "65": "A", "127": "\x7f", "128": "\xc2\x80", "233": "\xc3\xa9", "2047": "\xdf\xbf", "2048": "\xe0\xa0\x80", "8364": "\xe2\x82\xac", "55295": "\xed\x9f\xbf", "57344": "\xee\x80\x80",
		"65533": "\xef\xbf\xbd", "65535": "\xef\xbf\xbf", "65536": "\xf0\x90\x80\x80", "128512": "\xf0\x9f\x98\x80", "1114111": "\xf4\x8f\xbf\xbf",
	} {
		expectConvert(t, integer(text), api.BkString, words(want), nil)
		expectConvert(t, letter(text), api.BkString, words(want), nil)
	}
	for _, text := range []string{
		"-1", "-65", "55296", "56320", "57343", "1114112", near(31, -1), near(31, 65), near(32, 65), near(33, 65), below(32, 0), below(32, -65), near(63, -1), near(63, 65), near(64, 65), below(63, 0), below(64, -65), near(128, 65), near(448, 65), near(511, 65), near(512, -1), below(512, -1),
	} {
		expectConvert(t, integer(text), api.BkString, words("\xef\xbf\xbd"), nil)
		expectConvert(t, letter(text), api.BkString, words("\xef\xbf\xbd"), nil)
	}
	// Neither a float, nor a type that is not that of strings.
	for _, text := range []string{"65", "0", "-1", "1/2", near(512, -1)} {
		expectConvert(t, float(text), api.BkString, none, api.ErrKind)
	}
	for _, c := range []api.Const{integer("65"), letter("65"), float("65"), boolean(true)} {
		expectConvert(t, c, api.UntypedString, none, api.ErrKind)
	}
	expectConvert(t, boolean(true), api.BkString, none, api.ErrKind)
}

// P12.7: the kinds that the types give to numbers.
func TestConvertKinds(t *testing.T) {
	for _, c := range []struct{ basic, kind int }{
		{api.BkInt, 3}, {api.BkInt8, 3}, {api.BkInt32, 3}, {api.BkInt64, 3}, {api.BkUint, 3}, {api.BkUint8, 3}, {api.BkUint32, 3}, {api.BkUint64, 3}, {api.UntypedInt, 3},
		{api.UntypedRune, 4}, {api.BkFloat64, 5}, {api.UntypedFloat, 5},
	} {
		for kind := 3; kind <= 5; kind++ {
			expectConvert(t, of(kind, "97"), c.basic, of(c.kind, "97"), nil)
			expectConvert(t, of(kind, "0"), c.basic, of(c.kind, "0"), nil)
		}
		want, wrong := float("7/2"), error(nil)
		if c.kind != 5 {
			want, wrong = none, api.ErrArg
		}
		expectConvert(t, float("7/2"), c.basic, want, wrong)
	}
	for _, c := range []api.Const{boolean(true), boolean(false)} {
		expectConvert(t, c, api.BkBool, c, nil)
		expectConvert(t, c, api.UntypedBool, c, nil)
	}
	for _, c := range someStrings() {
		expectConvert(t, c, api.BkString, c, nil)
		expectConvert(t, c, api.UntypedString, c, nil)
	}
	expectConvert(t, integer("300"), api.BkInt8, none, api.ErrOver)
	expectConvert(t, float("3/2"), api.BkInt8, none, api.ErrArg)
	expectConvert(t, integer("1"), api.BkBool, none, api.ErrKind)
	expectConvert(t, integer("1"), api.UntypedNil, none, api.ErrKind)
}

// P12.7: the ends of each type, and numbers outside it.
func TestNot(t *testing.T) {
	for _, c := range []struct {
		basic int
		a     string
		want  string
	}{
		{api.BkUint8, "5", "250"}, {api.BkUint8, "0", "255"}, {api.BkUint8, "255", "0"}, {api.BkUint8, "1", "254"}, {api.BkUint32, "0", near(32, -1)}, {api.BkUint32, near(32, -1), "0"}, {api.BkUint32, "5", near(32, -6)},
		{api.BkUint, "0", near(64, -1)}, {api.BkUint, near(64, -1), "0"}, {api.BkUint64, "1", near(64, -2)}, {api.BkUint64, near(64, -1), "0"}, {api.BkUint64, near(63, 0), near(63, -1)},
		{api.BkInt8, "1", "-2"}, {api.BkInt8, "127", "-128"}, {api.BkInt8, "-128", "127"}, {api.BkInt32, near(31, -1), below(31, 0)}, {api.BkInt32, below(31, 0), near(31, -1)}, {api.BkInt, "0", "-1"}, {api.BkInt, below(63, 0), near(63, -1)}, {api.BkInt64, near(63, -1), below(63, 0)},
		// Only types without sign ask whether the number is one of theirs.
		{api.BkInt8, "300", "-301"}, {api.BkInt8, "-300", "299"}, {api.BkInt, near(64, 0), below(64, 1)}, {api.BkFloat64, "5", "-6"}, {api.UntypedInt, "5", "-6"}, {api.UntypedRune, "97", "-98"}, {api.UntypedFloat, "5", "-6"}, {api.BkBool, "5", "-6"}, {api.BkString, "5", "-6"},
		{api.UntypedNil, "5", "-6"}, {0, "5", "-6"}, {-1, "5", "-6"}, {100, "5", "-6"}, {math.MaxInt, "5", "-6"}, {math.MinInt, "5", "-6"}, {api.UntypedInt, below(512, -1), near(512, -2)},
	} {
		expectNot(t, integer(c.a), c.basic, integer(c.want), nil)
		expectNot(t, letter(c.a), c.basic, letter(c.want), nil)
	}
}

// P12.7
func TestNotErrors(t *testing.T) {
	for _, basic := range []int{api.BkUint, api.BkUint8, api.BkUint32, api.BkUint64} {
		_, greatest, _ := limits(basic)
		for _, text := range []string{"-1", "-5", greatest.Add(greatest, big.NewInt(1)).String(), near(512, -1), below(512, -1)} {
			expectNot(t, integer(text), basic, none, api.ErrOver)
			expectNot(t, letter(text), basic, none, api.ErrOver)
		}
	}
	for _, basic := range []int{api.BkInt8, api.BkInt64, api.UntypedInt, api.UntypedNil, 0} {
		expectNot(t, integer(near(512, -1)), basic, none, api.ErrOver)
	}
	for _, c := range []api.Const{boolean(true), words("5"), float("5"), float("1/2"), float("-1")} {
		for _, basic := range basics() {
			expectNot(t, c, basic, none, api.ErrKind)
		}
	}
}
