package scan

import (
	"go/scanner"
	gotoken "go/token"
	"slices"
	"strings"
	"testing"

	"cavil/api"
	"cavil/sample"
)

// word is a token as the library tells it: its text, by its kind, and its offset, which an inserted semicolon has not.
type word struct {
	text string
	from int
}

// libraryWords is the tokens that Go's library finds in a text, and whether they are all legal.
func libraryWords(s string) (l []word, legal bool) {
	files := gotoken.NewFileSet()
	file := files.AddFile("", -1, len(s))
	var sc scanner.Scanner
	sc.Init(file, []byte(s), func(gotoken.Position, string) {}, 0)
	for {
		pos, kind, text := sc.Scan()
		switch {
		case kind == gotoken.EOF:
			return l, sc.ErrorCount == 0
		case kind == gotoken.SEMICOLON && text != ";":
			l = append(l, word{"inserted", 0})
		case kind == gotoken.IDENT:
			l = append(l, word{"name", file.Offset(pos)})
		case kind == gotoken.INT, kind == gotoken.FLOAT, kind == gotoken.CHAR, kind == gotoken.STRING:
			l = append(l, word{strings.ToLower(kind.String()), file.Offset(pos)})
		default:
			l = append(l, word{kind.String(), file.Offset(pos)})
		}
	}
}

// ourWords is the tokens that Tokens finds in a text, and whether they are all legal.
func ourWords(s string) (l []word, legal bool) {
	tokens, e := Tokens([]byte(s))
	legal = e == nil
	for _, x := range tokens {
		switch {
		case x.Kind == api.TkBad:
			legal = false
		case x.Auto:
			l = append(l, word{"inserted", 0})
		case x.Kind <= api.TkString:
			l = append(l, word{[]string{"", "name", "int", "float", "char", "string"}[x.Kind], x.From})
		default:
			l = append(l, word{spell(x.Kind), x.From})
		}
	}
	return l, legal
}

// P11.1: where Go's library and the chapter take all tokens for legal, they find the same ones.
func TestTokensAgainstTheLibrary(t *testing.T) {
	compared := 0
	check := func(s string) {
		t.Helper()
		want, legal := libraryWords(s)
		got, ours := ourWords(s)
		if !legal || !ours {
			return
		}
		compared++
		if !slices.Equal(got, want) {
			t.Errorf("tokens of %s:\n got %v\nwant %v", sample.Short(s), got, want)
		}
	}
	sample.Each([]string{"a", "1", ".", "e", "/", "*", "\n", " ", "'", "\"", "`", "\\n", ")", "+", "\u00e9"}, 4, check)
	sample.Each([]string{"/*", "*/", "//", "\n", " ", "a", "++", ";", "return", "if"}, 4, check)
	for _, s := range strings.Fields(keywords + " " + operators) {
		for _, u := range strings.Fields(keywords + " " + operators) {
			check(s + u)
			check(s + "\n" + u)
			check(s + " /*\n*/" + u + " //")
		}
	}
	if compared < 40000 {
		t.Errorf("only %d texts were compared", compared)
	}
}

// P11.1: a text of many lines.
func TestTokensOfASourceAgainstTheLibrary(t *testing.T) {
	s := `// Package p does nothing.
package p

import (
	"a/b" /* one
	line more */
)

type Pair[K ~int | ~string, V any] struct {
	Key K; Value V
	next *Pair[K, V] // the next one
}

func (p *Pair[K, V]) Each(f func(K, V) bool) (n int, e error) {
	for q := p; q != nil; q = q.next {
		if !f(q.Key, q.Value) { break } /* done */
		n++
	}
	switch x := any(p).(type) {
	case nil, interface{ M() }:
		return 0x_1F + 1_000<<3&^07, nil
	case map[string][]chan<- int:
		fallthrough
	default:
		go func() { defer close(c); c <- 'x' }()
		_ = []float{1.5, .5e-3, 2., 1e9}[i:j:k]
		_ = "a\"b\x41\u00e9" + ` + "`raw\n\\`" + ` + '\''
	}
L:
	select {
	case v, ok := <-c: goto L
	}
	a, b = b, -a; a += 1 ; b %= 2; a &^= b ; n--
	return
}`
	for n := range len(s) + 1 {
		want, legal := libraryWords(s[:n])
		got, ours := ourWords(s[:n])
		if legal != ours || legal && ours && !slices.Equal(got, want) {
			t.Errorf("tokens of %s:\n got %v\nwant %v", sample.Short(s[:n]), got, want)
		}
	}
}
