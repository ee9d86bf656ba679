package konst

import (
	"math"
	"math/big"
	"slices"
	"strconv"
	"strings"
	"testing"
	"unsafe"

	"cavil/api"
	"cavil/limb"
	"cavil/ratio"
	"cavil/sample"
)

// num is the number with a decimal text; -0 is 0 with Neg true.
func num(text string) api.Int {
	digits, neg := strings.CutPrefix(text, "-")
	a, e := limb.Parse(digits, 10)
	if e != nil {
		panic(text)
	}
	a.Neg = neg
	return a
}

// rat is the ratio with the numerator and the denominator of a text, as they stand there; without a slash the denominator is 1.
func rat(text string) api.Rat {
	n, d, ok := strings.Cut(text, "/")
	if !ok {
		d = "1"
	}
	return api.Rat{N: num(n), D: num(d)}
}

// boolean, words, integer, letter and float are constants of each kind, made without the package.
func boolean(b bool) api.Const        { return api.Const{Kind: 1, B: b} }
func words(s string) api.Const        { return api.Const{Kind: 2, S: s} }
func integer(text string) api.Const   { return api.Const{Kind: 3, R: rat(text)} }
func letter(text string) api.Const    { return api.Const{Kind: 4, R: rat(text)} }
func float(text string) api.Const     { return api.Const{Kind: 5, R: rat(text)} }
func of(kind int, r string) api.Const { return api.Const{Kind: kind, R: rat(r)} }

var none = api.Const{}

// power is 2^k + d.
func power(k uint, d int64) *big.Int {
	v := new(big.Int).Lsh(big.NewInt(1), k)
	return v.Add(v, big.NewInt(d))
}

// near is the text of 2^k + d, and below the text of its opposite.
func near(k uint, d int64) string  { return power(k, d).String() }
func below(k uint, d int64) string { return "-" + near(k, d) }

// parts are the numerator and the denominator of a constant.
func parts(c api.Const) (n, d *big.Int) {
	n, _ = new(big.Int).SetString(limb.Text(c.R.N), 10)
	d, _ = new(big.Int).SetString(limb.Text(c.R.D), 10)
	return n, d
}

// fit reports whether all of some numbers have at most 512 bits.
func fit(l ...*big.Int) bool {
	return !slices.ContainsFunc(l, func(v *big.Int) bool { return v.BitLen() > 512 })
}

// made is the number of a kind with the value n / d, or ErrOver if one of the numbers does not fit.
func made(kind int, n, d *big.Int) (api.Const, error) {
	if !fit(n, d) {
		return none, api.ErrOver
	}
	return of(kind, new(big.Rat).SetFrac(n, d).RatString()), nil
}

// validByWords is the chapter's definition of a valid constant, word by word.
func validByWords(c api.Const) bool {
	zero := c.R == api.Rat{}
	switch c.Kind {
	case 1:
		return c.S == "" && zero
	case 2:
		return !c.B && zero
	case 3, 4, 5:
		n, d := parts(c)
		ratio := d.Sign() > 0 && new(big.Rat).SetFrac(n, d).RatString() == n.String()+"/"+d.String() || d.IsInt64() && d.Int64() == 1
		canonical := num(n.String()) == c.R.N && num(d.String()) == c.R.D
		return !c.B && c.S == "" && ratio && canonical && (c.Kind == 5 || d.IsInt64() && d.Int64() == 1)
	}
	return false
}

// show is a constant as a test tells it.
func show(c api.Const) string {
	l := []string{strconv.Itoa(c.Kind), strconv.FormatBool(c.B), sample.Short(c.S), limb.Text(c.R.N) + "/" + limb.Text(c.R.D)}
	return "{" + strings.Join(l, " ") + "}"
}

// call is a call that takes an operator or a type, and some constants.
type call struct {
	name   string
	number int
	l      []api.Const
}

func (c call) String() string {
	text := c.name + "(" + strconv.Itoa(c.number)
	for _, c := range c.l {
		text += ", " + show(c)
	}
	return text + ")"
}

// expect expects a valid constant and no error, or an error, alone, and nothing beside it.
func (c call) expect(t *testing.T, got api.Const, e error, want api.Const, wrong error) {
	t.Helper()
	if got != want || e != wrong {
		t.Errorf("%v = %s, %v; want %s, %v", c, show(got), e, show(want), wrong)
	}
	if e == nil && !validByWords(got) {
		t.Errorf("%v = %s: not valid", c, show(got))
	}
}

// Bools, strings, whole numbers and fractions that the tests take in pairs.
func someBools() []api.Const { return []api.Const{boolean(false), boolean(true)} }

func someStrings() []api.Const {
	var l []api.Const
	for _, s := range []string{"", "a", "b", "ab", "abc", "b\x00", "\x00", "A", "\x7f", "\x80", "\xff", "é", "a\xff", "€\n\"", "1"} {
		l = append(l, words(s))
	}
	return l
}

func wholeTexts() []string {
	l := []string{"0", "1", "-1", "2", "-2", "3", "-7", "10", "97", "-128", "255", "55296", "1114111"}
	for _, k := range []uint{63, 64, 255, 256, 511} {
		l = append(l, near(k, -1), below(k, 0), near(k, 1))
	}
	return append(l, near(512, -1), below(512, -1), near(512, -2), below(512, -2))
}

func fractionTexts() []string {
	return []string{
		"1/2", "-1/2", "3/2", "-7/2", "1/3", "-2/5", "355/113", "-1/" + near(64, 0), near(64, 1) + "/2",
		near(255, 1) + "/" + near(255, 0), below(256, 1) + "/" + near(256, -1), "1/" + near(256, 0), "3/" + near(511, 0), "-1/" + near(512, -1), near(512, -1) + "/2", near(512, -2) + "/" + near(512, -1),
	}
}

func someNumbers() []api.Const {
	var l []api.Const
	for i, text := range wholeTexts() {
		l = append(l, integer(text))
		if i%2 == 0 {
			l = append(l, letter(text))
		}
		if i%2 == 1 || i < 4 {
			l = append(l, float(text))
		}
	}
	for _, text := range fractionTexts() {
		l = append(l, float(text))
	}
	return l
}

// valid are constants of all kinds.
func valid() []api.Const {
	return slices.Concat(someBools(), someStrings(), someNumbers())
}

// wrongRatios are ratios that are not valid: 0 in each way but 0/1, and others.
func wrongRatios() []api.Rat {
	minus0 := api.Int{Neg: true}
	l := []api.Rat{{}, {N: minus0}, {D: minus0}, {N: minus0, D: minus0}, {N: minus0, D: num("1")}, {N: num("1"), D: minus0}}
	for _, text := range []string{
		"0/2", "0/-1", "0/-2", "-0/2", "0/" + near(512, -1), "1/0", "-1/0", "1/-1", "-1/-1", "1/-2", "2/2", "2/4", "-2/4", "6/3", "-6/3",
		near(511, 0) + "/2", near(512, -1) + "/" + near(256, 1), near(512, -1) + "/" + near(512, -1), "1/" + below(512, -1),
	} {
		l = append(l, rat(text))
	}
	return l
}

// wrongKinds are no kinds of constants.
func wrongKinds() []int {
	return []int{0, 6, 7, -1, -2, -5, 8, 16, 1<<8 + 3, 1<<32 + 1, 1<<32 + 3, math.MaxInt, math.MinInt, math.MinInt + 3}
}

// wrong are constants that are not valid.
func wrong() []api.Const {
	one := rat("1")
	l := []api.Const{
		{}, {Kind: 1, S: "x"}, {Kind: 1, B: true, S: "\x00"}, {Kind: 1, R: one}, {Kind: 1, B: true, R: rat("0")}, {Kind: 1, R: api.Rat{N: api.Int{Neg: true}}},
		{Kind: 2, B: true}, {Kind: 2, B: true, S: "x"}, {Kind: 2, R: one}, {Kind: 2, S: "x", R: rat("0")}, {Kind: 2, S: "1", R: api.Rat{D: api.Int{Neg: true}}},
	}
	for kind := 3; kind <= 5; kind++ {
		l = append(l, api.Const{Kind: kind, B: true, R: one}, api.Const{Kind: kind, S: "1", R: one}, api.Const{Kind: kind, B: true, S: "x", R: one}, api.Const{Kind: kind, S: "\x00", R: rat("0")})
		for _, r := range wrongRatios() {
			l = append(l, api.Const{Kind: kind, R: r})
		}
	}
	for _, text := range fractionTexts() {
		l = append(l, integer(text), letter(text))
	}
	for _, kind := range wrongKinds() {
		l = append(l, api.Const{Kind: kind}, api.Const{Kind: kind, B: true}, api.Const{Kind: kind, S: "x"}, api.Const{Kind: kind, R: one})
	}
	return l
}

// P12.1
func TestCheck(t *testing.T) {
	for _, c := range valid() {
		if e := Check(c); e != nil || !validByWords(c) {
			t.Errorf("Check(%s) = %v", show(c), e)
		}
	}
	for _, c := range wrong() {
		if e := Check(c); e != api.ErrForm || validByWords(c) {
			t.Errorf("Check(%s) = %v; want ErrForm", show(c), e)
		}
	}
}

// P12.1: each kind with each value beside each other one.
func TestCheckEveryField(t *testing.T) {
	ratios := wrongRatios()
	for _, text := range append(wholeTexts(), fractionTexts()...) {
		ratios = append(ratios, rat(text))
	}
	for _, kind := range append(wrongKinds(), 1, 2, 3, 4, 5) {
		for _, r := range ratios {
			for _, s := range []string{"", "x", "\x00", "true"} {
				for _, b := range []bool{false, true} {
					c := api.Const{Kind: kind, B: b, S: s, R: r}
					want := error(nil)
					if !validByWords(c) {
						want = api.ErrForm
					}
					if e := Check(c); e != want {
						t.Errorf("Check(%s) = %v; want %v", show(c), e, want)
					}
				}
			}
		}
	}
}

// P12.1
func TestBoolAndString(t *testing.T) {
	for _, b := range []bool{false, true} {
		if got := Bool(b); got != boolean(b) {
			t.Errorf("Bool(%t) = %s", b, show(got))
		}
	}
	for _, s := range []string{"", "a", "abc", "\x00", "\x80\xff", "é€", "true", strings.Repeat("x", 1<<20)} {
		if got := String(s); got != words(s) {
			t.Errorf("String(%s) = %s", sample.Short(s), show(got))
		}
	}
}

// P12.1, P12.3, P12.7: a string that is a result is no piece of an argument.
func TestOwnMemory(t *testing.T) {
	s := strings.Repeat("x", 100)
	sum, e := Binary(api.TkAdd, words(s), words(""))
	converted, f := Convert(words(s), api.BkString)
	for _, c := range []api.Const{String(s), sum, converted} {
		if c != words(s) || e != nil || f != nil || unsafe.StringData(c.S) == unsafe.StringData(s) {
			t.Errorf("%s, %v, %v: not a string of its own", show(c), e, f)
		}
	}
}

// P12.1
func TestNumber(t *testing.T) {
	expectNumber := func(kind int, r api.Rat, want api.Const, wrong error) {
		t.Helper()
		got, e := Number(kind, r)
		call{"Number", kind, []api.Const{{R: r}}}.expect(t, got, e, want, wrong)
	}
	for _, text := range wholeTexts() {
		for kind := 3; kind <= 5; kind++ {
			expectNumber(kind, rat(text), of(kind, text), nil)
		}
	}
	for _, text := range fractionTexts() {
		expectNumber(3, rat(text), none, api.ErrForm)
		expectNumber(4, rat(text), none, api.ErrForm)
		expectNumber(5, rat(text), float(text), nil)
	}
	for _, r := range append(wrongRatios(), rat("0"), rat("1"), rat("-1/2")) {
		for _, kind := range append(wrongKinds(), 1, 2) {
			expectNumber(kind, r, none, api.ErrKind)
		}
	}
	for _, r := range wrongRatios() {
		for kind := 3; kind <= 5; kind++ {
			expectNumber(kind, r, none, api.ErrForm)
		}
	}
}

// P12.8: of each kind, whether the constant is valid or not.
func TestDefault(t *testing.T) {
	types := map[int]int{1: api.BkBool, 2: api.BkString, 3: api.BkInt, 4: api.BkInt32, 5: api.BkFloat64}
	for _, c := range append(valid(), wrong()...) {
		if got := Default(c); got != types[c.Kind] {
			t.Errorf("Default(%s) = %d; want %d", show(c), got, types[c.Kind])
		}
	}
}

// P12.8
func TestText(t *testing.T) {
	for _, c := range []struct {
		c    api.Const
		want string
	}{
		{boolean(true), "true"}, {boolean(false), "false"}, {words(""), `""`}, {words("ab"), `"ab"`}, {words("a\n\"\\é\xff"), `"a\x0a\"\\\xc3\xa9\xff"`},
		{integer("42"), "42"}, {integer("-7"), "-7"}, {integer("0"), "0"}, {letter("97"), "97"}, {float("7"), "7"}, {float("7/2"), "7/2"}, {float("-1/3"), "-1/3"},
		{integer(near(512, -1)), near(512, -1)}, {float("-1/" + near(512, -1)), "-1/" + near(512, -1)},
		// Whether they are valid does not matter.
		{api.Const{Kind: 1, B: true, S: "x", R: rat("5")}, "true"}, {api.Const{Kind: 1, S: "x"}, "false"}, {api.Const{Kind: 2, B: true, S: "x", R: rat("5")}, `"x"`}, {api.Const{Kind: 2, R: rat("5")}, `""`},
		{integer("7/2"), "7/2"}, {letter("2/4"), "2/4"}, {float("1/0"), "1/0"}, {api.Const{Kind: 3}, "0/0"}, {api.Const{Kind: 4, B: true, S: "x", R: rat("5")}, "5"}, {api.Const{Kind: 5, R: api.Rat{N: api.Int{Neg: true}, D: num("1")}}, "0"},
	} {
		if got := Text(c.c); got != c.want {
			t.Errorf("Text(%s) = %s; want %s", show(c.c), got, c.want)
		}
	}
	for _, kind := range wrongKinds() {
		for _, c := range []api.Const{{Kind: kind}, {Kind: kind, B: true}, {Kind: kind, S: "x"}, {Kind: kind, R: rat("5")}} {
			if got := Text(c); got != "?" {
				t.Errorf("Text(%s) = %s; want ?", show(c), got)
			}
		}
	}
	for _, c := range someNumbers() {
		if got := Text(c); got != ratio.Text(c.R) {
			t.Errorf("Text(%s) = %s", show(c), got)
		}
	}
}

// P12.2 to P12.7: the error of Check comes first, whatever the operator or the type and the other constant are.
func TestWrongConstants(t *testing.T) {
	others := []api.Const{boolean(true), words("x"), integer("1"), letter("97"), float("1/2"), integer("0"), integer(near(512, -1)), {}, {Kind: 1, S: "x"}, integer("1/2")}
	numbers := append(operators(), basics()...)
	for _, c := range wrong() {
		for _, n := range numbers {
			got, e := Unary(n, c)
			call{"Unary", n, []api.Const{c}}.expect(t, got, e, none, api.ErrForm)
			got, e = Convert(c, n)
			call{"Convert", n, []api.Const{c}}.expect(t, got, e, none, api.ErrForm)
			got, e = Not(c, n)
			call{"Not", n, []api.Const{c}}.expect(t, got, e, none, api.ErrForm)
			call{"Fits", n, []api.Const{c}}.expect(t, none, Fits(c, n), none, api.ErrForm)
		}
		for _, o := range others {
			for _, op := range operators() {
				expectWrongPair(t, op, c, o)
				expectWrongPair(t, op, o, c)
			}
		}
	}
}

// expectWrongPair expects ErrForm of each call for two constants.
func expectWrongPair(t *testing.T, op int, a, b api.Const) {
	t.Helper()
	for name, f := range map[string]func(op int, a, b api.Const) (api.Const, error){"Binary": Binary, "Shift": Shift} {
		got, e := f(op, a, b)
		call{name, op, []api.Const{a, b}}.expect(t, got, e, none, api.ErrForm)
	}
	if is, e := Compare(op, a, b); is || e != api.ErrForm {
		t.Errorf("Compare(%d, %s, %s) = %t, %v; want ErrForm", op, show(a), show(b), is, e)
	}
}
