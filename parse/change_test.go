package parse

import (
	"math/rand"
	"slices"
	"testing"
)

// changed returns tokens with a token or two taken out, put in or replaced.
func changed(random *rand.Rand, kinds []int) []int {
	all := allKinds()
	l := slices.Clone(kinds)
	at := random.Intn(len(l) + 1)
	for range 1 + random.Intn(2) {
		other := all[random.Intn(len(all))]
		if random.Intn(2) == 0 {
			other = kinds[random.Intn(len(kinds))]
		}
		switch at = min(at, len(l)); random.Intn(3) {
		case 0:
			l = slices.Delete(l, at, min(at+1, len(l)))
		case 1:
			l = slices.Insert(l, at, other)
		case 2:
			l = slices.Replace(l, at, min(at+1, len(l)), other)
		}
		at += random.Intn(3)
	}
	return l
}

// firstErrorOf is grammar.firstError of tokens that begin as those do that the recognizer has taken.
func firstErrorOf(r *recognizer, kinds, taken []int) int {
	same := 0
	for same < min(len(kinds), len(taken)) && kinds[same] == taken[same] {
		same++
	}
	ahead := &recognizer{r.g, slices.Clone(r.columns[:same+1])}
	for i, kind := range kinds[same:] {
		if !ahead.viable(kind) {
			return same + i
		}
		ahead.push(kind)
	}
	if ahead.derives() {
		return -1
	}
	return len(kinds)
}

// P14.1, P14.2: random changes of files, of which some still derive.
func TestChanges(t *testing.T) {
	t.Parallel()
	random := rand.New(rand.NewSource(1))
	d := newDeriver(readGrammar(printed), 2)
	derived := 0
	for i := range 2000 {
		kinds, _ := d.fileWith(i%len(d.g.lines), i%23)
		r := newRecognizer(d.g)
		for _, kind := range kinds {
			r.push(kind)
		}
		for range 30 {
			l := changed(random, kinds)
			first := firstErrorOf(r, l, kinds)
			expectFirst(t, l, first)
			if first < 0 {
				derived++
			}
		}
	}
	if derived < 2000 {
		t.Error(derived)
	}
}

// P14.2: tokens without any order, behind the beginning of a function.
func TestDisorder(t *testing.T) {
	t.Parallel()
	random := rand.New(rand.NewSource(2))
	all := allKinds()
	g := readGrammar(printed)
	few := kindsOf("name name name int ( ) [ ] { } , ; ; . : := = * <- func var type struct if for switch case + bad")
	for i := range 20000 {
		l := kindsOf("package p ; func f ( ) {")
		for range 3 + i%40 {
			if i%2 == 0 {
				l = append(l, all[random.Intn(len(all))])
			} else {
				l = append(l, few[random.Intn(len(few))])
			}
		}
		expectFirst(t, l, g.firstError(l))
	}
}

// goodFile has many of the productions.
const goodFile = `
package p ; import "a" ; import ( b "c" ; "d" ; ) ;
const ( e , f any = iota , 1 ; g ) ; var h , i [ ] any = j ( k ... ) , m ;
type n [ o , q any , r interface { ~ o | o . p ; Q ( ) } , ] map [ o ] * q ;
type s struct { t , u func ( any , ... v ) ( w x , y <- chan z , ) ; * a . b ; c [ d ] ; e [ f ] g ; } ;
func ( h * i [ j , k ] ) l ( m , n o ) ( p [ 5 ] q ) {
const r = 1 ; type s t ; u : for v := range w { break u ; continue } ; for x = 1 ; x < y ; x ++ { } ; for { } ; for z { } ;
if a := b ; c { return } else if ! d { return e , f } else { goto u } ;
switch g := h . ( type ) { case any , [ ] i , * j , func ( ) k : fallthrough ; default : } ; switch l ; m [ n ] { } ;
select { case o <- p : case q , r = <- s : ; default : } ; go t ( ) ; defer func ( u any ) { } ( 1 , ) ;
v , w := x { y : { 1 , z { } , } , 2 } , & [ ... ] a { } ; b += c [ d : e : f ] . g [ : ] . ( h ) - i * ( * j ) ( k ) &^ 1 << 'l' ;
m [ n , [ ] o ] { } ; chan <- p ( q ) <- r ; } ;
`

// P14.1, P14.2: a file that ends after each of its tokens, that lacks each of them, and that has other kinds of tokens at each place, in addition or instead of the one there.
func TestEveryPlace(t *testing.T) {
	t.Parallel()
	kinds := kindsOf(goodFile)
	g := readGrammar(printed)
	r := newRecognizer(g)
	expectFirst(t, kinds, -1)
	for i, kind := range kinds {
		if r.derives() {
			expectFirst(t, kinds[:i], -1)
		} else {
			expectFirst(t, kinds[:i], i)
		}
		r.push(kind)
	}
	for i := range kinds {
		lacks := slices.Delete(slices.Clone(kinds), i, i+1)
		expectFirst(t, lacks, firstErrorOf(r, lacks, kinds))
		for j, kind := range append(allKinds(), strange...) {
			if (i+j)%4 > 0 {
				continue
			}
			other := slices.Clone(kinds)
			other[i] = kind
			expectFirst(t, other, firstErrorOf(r, other, kinds))
			more := slices.Insert(slices.Clone(kinds), i, kind)
			expectFirst(t, more, firstErrorOf(r, more, kinds))
		}
	}
}
