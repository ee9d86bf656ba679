package parse

import (
	"slices"
	"testing"

	"cavil/api"
)

// strange is kinds that no token has.
var strange = []int{-1 << 63, -87, -1, 0, 7, 8, 9, 35, 39, 88, 100, 1<<63 - 1}

// tails is what is put behind a token that can't follow, which must not move the error.
var tails = []string{"", "name", ";", ") ; }", "} ; } ;", "( name ] ;", "; var name int ;", "} ; func name ( ) { bad }"}

// prober goes through tokens that begin a sentence.
type prober struct {
	t     *testing.T
	r     *recognizer
	kinds []int
	tails [][]int
	tried int
}

func newProber(t *testing.T) *prober {
	p := &prober{t: t, r: newRecognizer(readGrammar(printed))}
	for _, tail := range tails {
		p.tails = append(p.tails, kindsOf(tail))
	}
	return p
}

// set makes the tokens those.
func (p *prober) set(kinds []int) {
	p.kinds = p.kinds[:0]
	p.r.columns = p.r.columns[:1]
	for _, kind := range kinds {
		p.push(kind)
	}
}

func (p *prober) push(kind int) {
	p.kinds = append(p.kinds, kind)
	p.r.push(kind)
}

func (p *prober) pop() {
	p.kinds = p.kinds[:len(p.kinds)-1]
	p.r.pop()
}

// ahead expects, for the tokens alone and for each kind of token behind them, the first error where the productions have it; it returns the kinds that can follow.
func (p *prober) ahead() []int {
	p.t.Helper()
	end := len(p.kinds)
	if p.r.derives() {
		expectFirst(p.t, p.kinds, -1)
	} else {
		expectFirst(p.t, p.kinds, end)
	}
	var can []int
	for _, kind := range slices.Concat(allKinds(), strange) {
		if p.r.viable(kind) {
			can = append(can, kind)
			continue
		}
		p.tried++
		wrong := append(p.kinds[:end:end], kind)
		expectFirst(p.t, append(wrong, p.tails[p.tried%len(p.tails)]...), end)
	}
	return can
}

// like is kinds that stand for others, of which no production has one without the other.
const like = "float char - / % & ^ << >> &^ -= *= /= %= &= |= ^= <<= >>= &^= && == < > ! != <= >= continue defer var --"

// grow calls ahead for the tokens and for all that can follow them, up to so many more.
func (p *prober) grow(more int, skip []int) {
	can := p.ahead()
	for _, kind := range can {
		if more > 0 && !slices.Contains(skip, kind) {
			p.push(kind)
			p.grow(more-1, skip)
			p.pop()
		}
	}
}

// P14.1, P14.2: behind each prefix of a short file for each production, every kind of token.
func TestEveryKind(t *testing.T) {
	p := newProber(t)
	d := newDeriver(p.r.g, 1)
	known := map[string]bool{}
	for line := range d.g.lines {
		kinds, _ := d.fileWith(line, 0)
		for end := range len(kinds) + 1 {
			if text := wordsOf(kinds[:end]); !known[text] {
				known[text] = true
				p.set(kinds[:end])
				p.ahead()
			}
		}
	}
}

// P14.1, P14.2: all short sequences of tokens behind some beginnings.
func TestEverySequence(t *testing.T) {
	t.Parallel()
	p := newProber(t)
	skip := kindsOf(like)
	for _, c := range []struct {
		words string
		more  int
	}{
		{"", 3},
		{"package p ;", 3},
		{"package p ; import (", 2},
		{"package p ; const a", 2},
		{"package p ; var a", 2},
		{"package p ; type a", 2},
		{"package p ; type a [ b", 2},
		{"package p ; type a struct {", 3},
		{"package p ; type a struct { b [ c", 3},
		{"package p ; type a interface {", 3},
		{"package p ; func", 3},
		{"package p ; func a (", 3},
		{"package p ; func a ( b [ c", 3},
		{"package p ; func a ( ) {", 3},
		{"package p ; func a ( ) { b", 2},
		{"package p ; func a ( ) { if", 3},
		{"package p ; func a ( ) { for", 2},
		{"package p ; func a ( ) { for a", 2},
		{"package p ; func a ( ) { switch", 3},
		{"package p ; func a ( ) { switch b :=", 2},
		{"package p ; func a ( ) { switch b ; c", 2},
		{"package p ; func a ( ) { switch { case", 2},
		{"package p ; func a ( ) { select { case", 2},
		{"package p ; var a = b (", 3},
		{"package p ; var a = b [", 3},
		{"package p ; var a = b {", 2},
		{"package p ; var a = b [ c", 2},
		{"package p ; var a = <- chan", 2},
		{"package p ; var a = b ( <- chan", 2},
		{"package p ; var a = b ( chan", 2},
		{"package p ; var a = [", 3},
		{"package p ; var a = chan", 2},
		{"package p ; var a = b ( *", 2},
	} {
		p.set(kindsOf(c.words))
		p.grow(c.more, skip)
	}
}

// P14.2: each two kinds at the beginning of a file.
func TestBeginnings(t *testing.T) {
	for _, a := range slices.Concat(allKinds(), strange) {
		for _, b := range slices.Concat(allKinds(), strange) {
			first := 0
			if a == api.TkPackage {
				first = 1
				if b == api.TkName {
					first = 2
				}
			}
			expectFirst(t, []int{a, b}, first)
			if first < 2 {
				expectFirst(t, []int{a, b, a, b, a}, first)
			}
		}
	}
}
