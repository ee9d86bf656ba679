package scan

import (
	"bytes"
	"errors"
	"math"
	"regexp"
	"slices"
	"strconv"
	"strings"
	"testing"
	"unicode/utf8"

	"cavil/api"
	"cavil/number"
	"cavil/quote"
	"cavil/sample"
)

// keywords and operators are as chapter 6 lists them, in the order of their kinds.
const (
	keywords  = "break case chan const continue default defer else fallthrough for func go goto if import interface map package range return select struct switch type var"
	operators = "+ - * / % & | ^ << >> &^ += -= *= /= %= &= |= ^= <<= >>= &^= && || <- ++ -- == < > = ! ~ != <= >= := ... ( [ { , . ) ] } ; :"
)

// ending are the texts of the kinds after which a line break ends a statement; the literals and names beside them have none.
const ending = "break continue fallthrough return ++ -- ) ] }"

// letters are the letters of the chapter's definition, as a part of a pattern.
const letters = `a-zA-Z_\x{c0}-\x{d6}\x{d8}-\x{f6}\x{f8}-\x{24f}`

// The ways in which a text begins, as the chapters define them. A byte that is not UTF-8 is one rune of a pattern, and no letter.
var (
	skippedRun   = regexp.MustCompile(`^(?:[ \t\r]+|\n|//[^\n]*)`)
	generalRun   = regexp.MustCompile(`^/\*(?s:.*?)\*/`)
	nameRun      = regexp.MustCompile(`^[` + letters + `][` + letters + `0-9]*`)
	numberRun    = regexp.MustCompile(`^(?:0[xX][0-9A-Za-z_.]*|\.?[0-9](?:[eE][+-]|[0-9A-Za-z_.])*)`)
	closedQuote  = regexp.MustCompile("^(?:'(?:\\\\[^\\n]|[^\\\\'\\n])*'|\"(?:\\\\[^\\n]|[^\\\\\"\\n])*\"|`[^`]*`)")
	cutQuote     = regexp.MustCompile("^(?:['\"][^\\n]*|`(?s:.*))")
	gapWhole     = regexp.MustCompile(`^(?:[ \t\r\n]|//[^\n]*(?:\n|$)|/\*(?:[^*]|\*+[^*/])*\*+/)*$`)
	prefixedForm = regexp.MustCompile(`^0[xXbBoO]`)
)

// codeOf is the constant of an error of a lower layer.
func codeOf(e error) api.Errno {
	for n := api.ErrArg; n <= api.ErrCycle; n++ {
		if errors.Is(e, n) {
			return n
		}
	}
	return 0
}

// literalByWords is the literal that s begins with, as chapters 9 and 10 define it; without bytes, if none begins there.
func literalByWords(s string) api.Token {
	var kind int
	var e error
	m := numberRun.FindString(s)
	switch {
	case m != "" && !prefixedForm.MatchString(m) && strings.ContainsAny(m, ".eE"):
		kind = 3
		_, e = number.Float(m)
	case m != "":
		kind = 2
		_, e = number.Int(m)
	case closedQuote.MatchString(s) && s[0] == '\'':
		m, kind = closedQuote.FindString(s), 4
		_, e = quote.Char(m)
	case closedQuote.MatchString(s):
		m, kind = closedQuote.FindString(s), 5
		_, e = quote.Text(m)
	case cutQuote.MatchString(s):
		m, kind, e = cutQuote.FindString(s), 4, api.ErrCut
	}
	if e != nil {
		kind = 6
	}
	return api.Token{Kind: kind, To: len(m), Err: codeOf(e)}
}

// operatorByWords is the longest operator that s begins with; without bytes, if there is none.
func operatorByWords(s string) api.Token {
	var t api.Token
	for i, o := range strings.Fields(operators) {
		if strings.HasPrefix(s, o) && len(o) > t.To {
			t = api.Token{Kind: 40 + i, To: len(o)}
		}
	}
	return t
}

// tokenByWords is the token that s begins with, if it begins with no blank, comment or line feed.
func tokenByWords(s string) api.Token {
	if strings.HasPrefix(s, "/*") {
		return api.Token{Kind: 6, To: len(s), Err: api.ErrCut}
	}
	if m := nameRun.FindString(s); m != "" {
		if i := slices.Index(strings.Fields(keywords), m); i >= 0 {
			return api.Token{Kind: 10 + i, To: len(m)}
		}
		return api.Token{Kind: 1, To: len(m)}
	}
	if t := literalByWords(s); t.To > 0 {
		return t
	}
	if t := operatorByWords(s); t.To > 0 {
		return t
	}
	if r, size := utf8.DecodeRuneInString(s); r != utf8.RuneError || size > 1 {
		return api.Token{Kind: 6, To: size, Err: api.ErrToken}
	}
	return api.Token{Kind: 6, To: 1, Err: api.ErrUtf}
}

// spell is the text of a keyword or an operator, and of every other kind its own number.
func spell(kind int) string {
	switch {
	case kind >= 10 && kind <= 34:
		return strings.Fields(keywords)[kind-10]
	case kind >= 40 && kind <= 87:
		return strings.Fields(operators)[kind-40]
	}
	return strconv.Itoa(kind)
}

// tokensByWords is what P11.1 says, word by word.
func tokensByWords(b []byte) []api.Token {
	var l []api.Token
	s := string(b)
	at := 0
	insert := func(off int) {
		if len(l) == 0 {
			return
		}
		last := l[len(l)-1]
		if !last.Auto && (last.Kind >= 1 && last.Kind <= 5 || slices.Contains(strings.Fields(ending), spell(last.Kind))) {
			l = append(l, api.Token{Kind: 86, From: off, To: off, Auto: true})
		}
	}
	for at < len(s) {
		rest := s[at:]
		general := generalRun.FindString(rest)
		if strings.Contains(general, "\n") || rest[0] == '\n' {
			insert(at)
		}
		if skipped := skippedRun.FindString(rest) + general; skipped != "" {
			at += len(skipped)
			continue
		}
		t := tokenByWords(rest)
		t.From, t.To = at, at+t.To
		l = append(l, t)
		at = t.To
	}
	insert(at)
	return l
}

// soundByWords is what P11.4 says, word by word: the index and the error, or -1 and 0.
func soundByWords(b []byte, l []api.Token) (int, api.Errno) {
	previous := 0
	for i, t := range l {
		if t.From > t.To || t.From < previous || t.To > len(b) {
			return i, api.ErrOrder
		}
		if !gapWhole.Match(b[previous:t.From]) {
			return i, api.ErrForm
		}
		previous = t.To
	}
	if !gapWhole.Match(b[previous:]) {
		return len(l), api.ErrForm
	}
	return -1, 0
}

// shown is tokens as a test writes them: kinds with a text by it, names and literals by a word and their bytes, bad ones with their error, inserted semicolons with their offset.
func shown(b []byte, l []api.Token) string {
	words := []string{"", "name ", "int ", "float ", "char ", "string ", "bad "}
	var all []string
	for _, t := range l {
		text := string(b[t.From:t.To])
		switch {
		case t.Auto && t.Kind == api.TkSemi && text == "" && t.Err == 0:
			all = append(all, "; at "+strconv.Itoa(t.From))
		case t.Auto:
			all = append(all, "a wrong token")
		case t.Kind == api.TkBad:
			all = append(all, "bad "+text+": "+t.Err.Error())
		case t.Err != 0:
			all = append(all, "a wrong error")
		case t.Kind <= api.TkString:
			all = append(all, words[t.Kind]+text)
		case spell(t.Kind) == text:
			all = append(all, text)
		default:
			all = append(all, "a wrong text "+text)
		}
	}
	return strings.Join(all, " | ")
}

// scanned is the tokens of a text that Tokens accepts.
func scanned(t *testing.T, s string) []api.Token {
	t.Helper()
	b := []byte(s)
	l, e := Tokens(b)
	if e != nil {
		t.Fatalf("Tokens(%s): %v", sample.Short(s), e)
	}
	if string(b) != s {
		t.Fatalf("Tokens(%s) changes the bytes", sample.Short(s))
	}
	return l
}

// expectTokens expects the tokens of a text, as shown tells them.
func expectTokens(t *testing.T, s, want string) {
	t.Helper()
	if got := shown([]byte(s), scanned(t, s)); got != want {
		t.Errorf("Tokens(%s):\n got %s\nwant %s", sample.Short(s), sample.Short(got), sample.Short(want))
	}
}

// expectByWords expects of Tokens what P11.1 says, and what P11.5 says of the result.
func expectByWords(t *testing.T, s string) {
	t.Helper()
	l := scanned(t, s)
	if want := tokensByWords([]byte(s)); !slices.Equal(l, want) {
		t.Errorf("Tokens(%s):\n got %v\nwant %v", sample.Short(s), l, want)
	}
	expectNothingLost(t, s, l)
	expectAlone(t, s, l)
}

// expectNothingLost expects tokens that are sound: by P11.4, and as the chapter defines what stands between them.
func expectNothingLost(t *testing.T, s string, l []api.Token) {
	t.Helper()
	if e := Sound([]byte(s), l); e != nil {
		t.Errorf("Sound(%s, %v): %v", sample.Short(s), l, e)
	}
	if i, e := soundByWords([]byte(s), l); e != 0 {
		t.Errorf("tokens of %s, %v: %v at %d", sample.Short(s), l, e, i)
	}
	for _, x := range l {
		if !x.Auto && x.From == x.To {
			t.Errorf("tokens of %s: %v has no bytes", sample.Short(s), x)
		}
	}
}

// expectAlone expects the bytes of each token to be that token alone, but for an inserted semicolon.
func expectAlone(t *testing.T, s string, l []api.Token) {
	t.Helper()
	for _, x := range l {
		if x.Auto {
			continue
		}
		size := x.To - x.From
		alone, e := Tokens([]byte(s[x.From:x.To]))
		want := []api.Token{{Kind: x.Kind, To: size, Err: x.Err}, {Kind: api.TkSemi, From: size, To: size, Auto: true}}
		if e != nil || !slices.Equal(alone, want) && !slices.Equal(alone, want[:1]) {
			t.Errorf("%v of %s alone: %v, %v", x, sample.Short(s), alone, e)
		}
	}
}

// expectSound expects what Sound says of tokens: an index and an error, or -1 and 0 for none.
func expectSound(t *testing.T, s string, l []api.Token, off int, wrong api.Errno) {
	t.Helper()
	b, kept := []byte(s), slices.Clone(l)
	e := Sound(b, l)
	if !bytes.Equal(b, []byte(s)) || !slices.Equal(l, kept) {
		t.Errorf("Sound(%s, %v) changes its arguments", sample.Short(s), kept)
	}
	if wrong == 0 {
		if e != nil {
			t.Errorf("Sound(%s, %v) = %#v; want nil", sample.Short(s), l, e)
		}
		return
	}
	var at api.At
	if !errors.As(e, &at) || !errors.Is(e, wrong) || at != (api.At{Off: off, Err: wrong}) {
		t.Errorf("Sound(%s, %v) = %#v; want %v at %d", sample.Short(s), l, e, wrong, off)
	}
}

// far are offsets that are none in n bytes.
func far(n int) []int {
	return []int{-1, -2, -n - 1, math.MinInt, math.MinInt + 1, math.MinInt32, n + 1, n + 64, 1 << 24, 1 << 32, math.MaxInt32, math.MaxInt - 1, math.MaxInt}
}
