package parse

import (
	"math"
	"reflect"
	"slices"
	"strings"
	"testing"

	"cavil/api"
)

// mistake is words, the tokens at which they are wrong, and the tree.
type mistake struct {
	words string
	at    []int
	tree  string
}

func expectMistakes(t *testing.T, l []mistake) {
	t.Helper()
	g := readGrammar(printed)
	for _, m := range l {
		kinds := kindsOf(m.words)
		x, d := expectFirst(t, kinds, g.firstError(kinds))
		var at []int
		for _, e := range d {
			at = append(at, e.Tok)
		}
		if got := show(x, strings.Fields(m.words)); !slices.Equal(at, m.at) || got != m.tree {
			t.Errorf("%s: %v %s, want %v %s", m.words, at, got, m.at, m.tree)
		}
	}
}

// P14.2, P14.3: what is wrong outside of functions; what follows is parsed all the same.
func TestWrongDeclarations(t *testing.T) {
	expectMistakes(t, []mistake{
		{"", []int{0}, "File(Bad<> [] [])"},
		{"package", []int{1}, "File(Bad<> [] [])"},
		{"package p", []int{2}, "File(Bad<p> [] [])"},
		{"package ;", []int{1}, "File(Bad<> [] [])"},
		{"; package p ;", []int{0, 1}, "File(Bad<> [Bad<package p>] [])"},
		{"package p q ; var a b ;", []int{2}, "File(Bad<p q> [] [VarDecl(VarSpec([a] b -))])"},
		{`package ; import "a" ; var b c ;`, []int{1}, `File(Bad<> [ImportDecl(Import(- "a"))] [VarDecl(VarSpec([b] c -))])`},
		{`p ; import "a" ; var b c ;`, []int{0}, `File(Bad<p> [ImportDecl(Import(- "a"))] [VarDecl(VarSpec([b] c -))])`},
		{`import "a" ; var b c ;`, []int{0}, `File(Bad<> [ImportDecl(Import(- "a"))] [VarDecl(VarSpec([b] c -))])`},
		{"var a b ;", []int{0}, "File(Bad<> [] [VarDecl(VarSpec([a] b -))])"},
		{"package p func f ( ) { } ;", []int{2}, "File(Bad<p> [] [Func(- f - Sig(Params() -) Block())])"},
		{"package p ; ; var a b ;", []int{3}, "File(p [Bad<>] [VarDecl(VarSpec([a] b -))])"},
		{"package p ; a ; var b c ;", []int{3}, "File(p [Bad<a>] [VarDecl(VarSpec([b] c -))])"},
		{`package p ; a ; b ; import "c" ; var d e ;`, []int{3}, `File(p [Bad<a ; b> ImportDecl(Import(- "c"))] [VarDecl(VarSpec([d] e -))])`},
		{`package p ; import a ; import "b" ; var c d ;`, []int{5}, `File(p [Bad<import a> ImportDecl(Import(- "b"))] [VarDecl(VarSpec([c] d -))])`},
		{`package p ; import ( "a" "b" ; "c" ; ) ; var d e ;`, []int{6}, `File(p [Bad<import ( "a" "b" ; "c" ; )>] [VarDecl(VarSpec([d] e -))])`},
		{`package p ; import "a" ; var b c ; import "d" ; import "e" ; var f g ;`, []int{10}, `File(p [ImportDecl(Import(- "a"))] [VarDecl(VarSpec([b] c -)) Bad<import "d" ; import "e"> VarDecl(VarSpec([f] g -))])`},
		{"package p ; var a = = 1 ; var b c ;", []int{6}, "File(p [] [Bad<var a = = 1> VarDecl(VarSpec([b] c -))])"},
		{"package p ; var a b", []int{6}, "File(p [] [VarDecl(VarSpec([a] b -)) Bad<>])"},
		{"package p ; var a b c ; var d e ;", []int{6}, "File(p [] [VarDecl(VarSpec([a] b -)) Bad<c> VarDecl(VarSpec([d] e -))])"},
		{"package p ; var a b var c d ; var e f ;", []int{6}, "File(p [] [VarDecl(VarSpec([a] b -)) Bad<var c d> VarDecl(VarSpec([e] f -))])"},
		{"package p ; var a = ( 1 ; var b c ;", []int{8}, "File(p [] [Bad<var a = ( 1> VarDecl(VarSpec([b] c -))])"},
		{"package p ; var a = b { 1 ; var c d ; func e ( ) { } ; var f g ;", []int{9}, "File(p [] [Bad<var a = b { 1 ; var c d ;> Func(- e - Sig(Params() -) Block()) VarDecl(VarSpec([f] g -))])"},
		{"package p ; var ( a b ; c = = d ; e f ; ) ; var g h ;", []int{10}, "File(p [] [Bad<var ( a b ; c = = d ; e f ; )> VarDecl(VarSpec([g] h -))])"},
		{"package p ; var ( a b ; func c ( ) { } ; var d e ;", []int{8}, "File(p [] [Bad<var ( a b ;> Func(- c - Sig(Params() -) Block()) VarDecl(VarSpec([d] e -))])"},
		{"package p ; var ( a b ; ) ) ; var c d ;", []int{9}, "File(p [] [VarDecl(VarSpec([a] b -)) Bad<)> VarDecl(VarSpec([c] d -))])"},
		{"package p ; const a b ; const c = d ;", []int{6}, "File(p [] [Bad<const a b> ConstDecl(ConstSpec([c] - [d]))])"},
		{"package p ; type a struct { b c , d e ; } ; var f g ;", []int{9}, "File(p [] [Bad<type a struct { b c , d e ; }> VarDecl(VarSpec([f] g -))])"},
		{"package p ; type a interface { b ( ) c d ; } ; var f g ;", []int{11}, "File(p [] [Bad<type a interface { b ( ) c d ; }> VarDecl(VarSpec([f] g -))])"},
		{"package p ; type a [ ] ; type b c ;", []int{7}, "File(p [] [Bad<type a [ ]> TypeDecl(TypeSpec(b - c))])"},
		{"package p ; func a ( b ; var c d ;", []int{7}, "File(p [] [Bad<func a ( b> VarDecl(VarSpec([c] d -))])"},
		{"package p ; func a ( ) ; { b ( ) ; } ; var c d ;", []int{7}, "File(p [] [Bad<func a ( ) ; { b ( ) ; }> VarDecl(VarSpec([c] d -))])"},
		{"package p ; func a ( ) { } } ; var b c ;", []int{9}, "File(p [] [Func(- a - Sig(Params() -) Block()) Bad<}> VarDecl(VarSpec([b] c -))])"},
		{"package p ; func a ( ) { } ; } ; b = c ; if d { var e f ; } ; } ; func g ( ) { } ;", []int{10}, "File(p [] [Func(- a - Sig(Params() -) Block()) Bad<} ; b = c ; if d { var e f ; } ; }> Func(- g - Sig(Params() -) Block())])"},
		{"package p ; func a ( ) { } func b ( ) { } ; var c d ;", []int{9}, "File(p [] [Func(- a - Sig(Params() -) Block()) Bad<func b ( ) { }> VarDecl(VarSpec([c] d -))])"},
		{"package p ; func a ( ) { ; func b ( ) { } ; func ( c * d [ e ] ) f ( ) { } ; var g h ;", []int{10}, "File(p [] [Func(- a - Sig(Params() -) Block(Bad<>)) Func(- b - Sig(Params() -) Block()) Func(Recv(c d [e]) f - Sig(Params() -) Block()) VarDecl(VarSpec([g] h -))])"},
		{"package p ; func a ( ) { if b { c := func ( ) { d ( ; func e ( ) { } ;", []int{19, 21}, "File(p [] [Func(- a - Sig(Params() -) Block(If(- b Block(Define([c] [FuncLit(Sig(Params() -) Block(Bad<d (> Bad<>))])) -))) Func(- e - Sig(Params() -) Block())])"},
		{"package p ; func a ( ) { b ( func ( ) { ; func c ( ) { } ;", []int{16}, "File(p [] [Func(- a - Sig(Params() -) Block(Bad<b ( func ( ) { ;>)) Func(- c - Sig(Params() -) Block())])"},
		{"package p ; ) ] } ; var a b ;", []int{3}, "File(p [Bad<) ] }>] [VarDecl(VarSpec([a] b -))])"},
		{"package p ; var a = = 1 ; b ; var c = = 2 ; type = ; func d ( ) { e e } ;", []int{6, 14, 18, 26}, "File(p [] [Bad<var a = = 1 ; b> Bad<var c = = 2> Bad<type => Func(- d - Sig(Params() -) Block(Bad<e e>))])"},
		{"package p ; var a = bad ; var b = bad bad + bad ; var c d ;", []int{6, 11, 12, 14}, "File(p [] [Bad<var a = bad> Bad<var b = bad bad + bad> VarDecl(VarSpec([c] d -))])"},
		{"package p ; var a = 1 + ; bad ; bad ; var c d ;", []int{8, 9, 11}, "File(p [] [Bad<var a = 1 + ; bad ; bad> VarDecl(VarSpec([c] d -))])"},
		{"bad bad ; bad", []int{0, 1, 3}, "File(Bad<bad bad> [Bad<bad>] [])"},
		{"package bad ; var a b ;", []int{1}, "File(Bad<bad> [] [VarDecl(VarSpec([a] b -))])"},
	})
}

// P14.2, P14.3: what is wrong within functions.
func TestWrongStatements(t *testing.T) {
	expectMistakes(t, []mistake{
		{"package p ; func f ( ) { a := := 1 ; b ( ) ; if c { d d ; } ; return ; } ;", []int{10, 21}, "File(p [] [Func(- f - Sig(Params() -) Block(Bad<a := := 1> ExprS(Call(b [])) If(- c Block(Bad<d d>) -) Return(-)))])"},
		{"package p ; func f ( ) { a b ; c = d e ; g := h i ; if j { } k ( ) ; return l m ; n ( ) ; } ;", []int{9, 14, 19, 25, 31}, "File(p [] [Func(- f - Sig(Params() -) Block(Bad<a b> Assign([c] [d]) Bad<e> Define([g] [h]) Bad<i> If(- j Block() -) Bad<k ( )> Return([l]) Bad<m> ExprS(Call(n []))))])"},
		{"package p ; func f ( ) { a ( b c ; d ( ) ; } ; var e f ;", []int{11}, "File(p [] [Func(- f - Sig(Params() -) Block(Bad<a ( b c> ExprS(Call(d [])))) VarDecl(VarSpec([e] f -))])"},
		{"package p ; func f ( ) { a ( b , c ; ) ; d ( ) ; } ; var e f ;", []int{13}, "File(p [] [Func(- f - Sig(Params() -) Block(Bad<a ( b , c ; )> ExprS(Call(d [])))) VarDecl(VarSpec([e] f -))])"},
		{"package p ; func f ( ) { a := [ ] b { c , d ; } ; e ( ) ; } ; var g h ;", []int{17}, "File(p [] [Func(- f - Sig(Params() -) Block(Bad<a := [ ] b { c , d ; }> ExprS(Call(e [])))) VarDecl(VarSpec([g] h -))])"},
		{"package p ; func f ( ) { a := b { c d ; e ( ) ; } ; func g ( ) { } ;", []int{13, 22}, "File(p [] [Func(- f - Sig(Params() -) Block(Bad<a := b { c d ; e ( ) ; }> Bad<>)) Func(- g - Sig(Params() -) Block())])"},
		{"package p ; func f ( ) { a [ b ; c ) ; ] d ( ; e ( ) ; } ; var g h ;", []int{11, 13, 15}, "File(p [] [Func(- f - Sig(Params() -) Block(Bad<a [ b> Bad<c )> Bad<] d (> ExprS(Call(e [])))) VarDecl(VarSpec([g] h -))])"},
		{"package p ; func f ( ) { for a := b c < d ; e ++ { g ( ) ; } ; h ( ) ; } ;", []int{12}, "File(p [] [Func(- f - Sig(Params() -) Block(Bad<for a := b c < d ; e ++ { g ( ) ; }> ExprS(Call(h []))))])"},
		{"package p ; func f ( ) { for ( a := b ; a < c ; a ++ ) { d ( ) ; } ; e ( ) ; } ;", []int{11}, "File(p [] [Func(- f - Sig(Params() -) Block(Bad<for ( a := b ; a < c ; a ++ ) { d ( ) ; }> ExprS(Call(e []))))])"},
		{"package p ; func f ( ) { for a : b { c ( ) ; } ; d ( ) ; } ;", []int{10}, "File(p [] [Func(- f - Sig(Params() -) Block(Bad<for a : b { c ( ) ; }> ExprS(Call(d []))))])"},
		{"package p ; func f ( ) { for a b ; c := d { e } ; g ( ) ; } ;", []int{10}, "File(p [] [Func(- f - Sig(Params() -) Block(Bad<for a b> Define([c] [CompLit(d Elems(e))]) ExprS(Call(g []))))])"},
		{"package p ; func f ( ) { for a b ; c ( ) ; d ( ) ; return ; if e { } ; } ;", []int{10}, "File(p [] [Func(- f - Sig(Params() -) Block(Bad<for a b> ExprS(Call(c [])) ExprS(Call(d [])) Return(-) If(- e Block() -)))])"},
		{"package p ; func f ( ) { for [ ] a { b c } ; d { e } ; g ( ) ; } ;", []int{14}, "File(p [] [Func(- f - Sig(Params() -) Block(Bad<for [ ] a { b c }> ExprS(CompLit(d Elems(e))) ExprS(Call(g []))))])"},
		{"package p ; func f ( ) { if ( a := b ; a ) { c ( ) ; } else { d ( ) ; } ; e ( ) ; } ;", []int{11}, "File(p [] [Func(- f - Sig(Params() -) Block(Bad<if ( a := b ; a ) { c ( ) ; } else { d ( ) ; }> ExprS(Call(e []))))])"},
		{"package p ; func f ( ) { if a = b { c ( ) ; } ; d ( ) ; } ;", []int{12}, "File(p [] [Func(- f - Sig(Params() -) Block(Bad<if a = b { c ( ) ; }> ExprS(Call(d []))))])"},
		{"package p ; func f ( ) { if a ; { b ( ) ; } ; else { c ( ) ; } ; d ( ) ; } ;", []int{11, 18}, "File(p [] [Func(- f - Sig(Params() -) Block(Bad<if a ; { b ( ) ; }> Bad<else { c ( ) ; }> ExprS(Call(d []))))])"},
		{"package p ; func f ( ) { if a == b { } { } ; c ( ) ; } ;", []int{14}, "File(p [] [Func(- f - Sig(Params() -) Block(If(- Binary(a b) Block() -) Bad<{ }> ExprS(Call(c []))))])"},
		{"package p ; func f ( ) { if a { b ( ) ; } else c ( ) ; d ( ) ; } ;", []int{17}, "File(p [] [Func(- f - Sig(Params() -) Block(Bad<if a { b ( ) ; } else c ( )> ExprS(Call(d []))))])"},
		{"package p ; func f ( ) { while a { b ( ) ; } ; c ( ) ; } ;", []int{9}, "File(p [] [Func(- f - Sig(Params() -) Block(Bad<while a { b ( ) ; }> ExprS(Call(c []))))])"},
		{"package p ; func f ( ) { switch a { b ( ) ; case c : d ( ) ; } ; e ( ) ; } ;", []int{11}, "File(p [] [Func(- f - Sig(Params() -) Block(Bad<switch a { b ( ) ; case c : d ( ) ; }> ExprS(Call(e []))))])"},
		{"package p ; func f ( ) { switch a { case b c : d ( ) ; case e : } ; g ( ) ; } ;", []int{13}, "File(p [] [Func(- f - Sig(Params() -) Block(Bad<switch a { case b c : d ( ) ; case e : }> ExprS(Call(g []))))])"},
		{"package p ; func f ( ) { switch a { case b : c d ; case e : g ( h i ; case j : } ; k ( ) ; } ;", []int{15, 23}, "File(p [] [Func(- f - Sig(Params() -) Block(Switch(- a [Case([b] [Bad<c d>]) Case([e] [Bad<g ( h i>]) Case([j] [])]) ExprS(Call(k []))))])"},
		{"package p ; func f ( ) { switch a { case b : c ( d e case g : { h i case j : k ; } ; } ; l ( ) ; } ;", []int{17}, "File(p [] [Func(- f - Sig(Params() -) Block(Switch(- a [Case([b] [Bad<c ( d e case g : { h i case j : k ; }>])]) ExprS(Call(l []))))])"},
		{"package p ; func f ( ) { switch a + b . ( type ) { } ; c ( ) ; } ;", []int{14}, "File(p [] [Func(- f - Sig(Params() -) Block(Bad<switch a + b . ( type ) { }> ExprS(Call(c []))))])"},
		{"package p ; func f ( ) { select { case a b : c ; default : d } ; e ( ) ; } ;", []int{12}, "File(p [] [Func(- f - Sig(Params() -) Block(Bad<select { case a b : c ; default : d }> ExprS(Call(e []))))])"},
		{"package p ; func f ( ) { case a : b ( ) ; default : c ( ) ; } ; var d e ;", []int{8, 15}, "File(p [] [Func(- f - Sig(Params() -) Block(Bad<case a : b ( )> Bad<default : c ( )>)) VarDecl(VarSpec([d] e -))])"},
		{"package p ; func f ( ) { a ) ; b ] ; c ( ) ; } ; var d e ;", []int{9, 12}, "File(p [] [Func(- f - Sig(Params() -) Block(Bad<a )> Bad<b ]> ExprS(Call(c [])))) VarDecl(VarSpec([d] e -))])"},
		{"package p ; func f ( ) { var ( a b ; c = = d ; e g ; ) ; h ( ) ; } ;", []int{15}, "File(p [] [Func(- f - Sig(Params() -) Block(Bad<var ( a b ; c = = d ; e g ; )> ExprS(Call(h []))))])"},
		{"package p ; func f ( ) { type ( a b ) ; type c [ d e ] g ; type h i ; } ;", []int{9, 18}, "File(p [] [Func(- f - Sig(Params() -) Block(Bad<type ( a b )> Bad<type c [ d e ] g> TypeDecl(TypeSpec(h - i))))])"},
		{`package p ; func f ( ) { go ; defer ; goto ; break a b ; import "c" ; package d ; e ( ) ; } ;`, []int{9, 11, 13, 16, 18, 21}, `File(p [] [Func(- f - Sig(Params() -) Block(Bad<go> Bad<defer> Bad<goto> Break(a) Bad<b> Bad<import "c"> Bad<package d> ExprS(Call(e []))))])`},
		{"package p ; func f ( ) { a : b c ; d : ; } ; var e g ;", []int{11}, "File(p [] [Func(- f - Sig(Params() -) Block(Label(a ExprS(b)) Bad<c> Label(d -))) VarDecl(VarSpec([e] g -))])"},
		{"package p ; func f ( ) { func g ( ) { } ; h ( ) ; } ; var a b ;", []int{9}, "File(p [] [Func(- f - Sig(Params() -) Block(Bad<func g ( ) { }> ExprS(Call(h [])))) VarDecl(VarSpec([a] b -))])"},
		{"package p ; func f ( ) { if a { b ( ) ; ; func ( c d ) e ( ) { } ; var g h ;", []int{22}, "File(p [] [Func(- f - Sig(Params() -) Block(If(- a Block(ExprS(Call(b [])) Bad<>) -))) Func(Recv(c d -) e - Sig(Params() -) Block()) VarDecl(VarSpec([g] h -))])"},
		{"package p ; func f ( ) {", []int{8}, "File(p [] [Func(- f - Sig(Params() -) Block(Bad<>))])"},
		{"package p ; func f ( ) { a := func ( ) { b (", []int{16}, "File(p [] [Func(- f - Sig(Params() -) Block(Define([a] [FuncLit(Sig(Params() -) Block(Bad<b (>))])))])"},
		{"package p ; func f ( ) { switch a { case b :", []int{14}, "File(p [] [Func(- f - Sig(Params() -) Block(Switch(- a [Case([b] [Bad<>])])))])"},
		{"package p ; func f ( ) { a = bad + bad ; bad ; b ( ) ; } ;", []int{10, 12, 14}, "File(p [] [Func(- f - Sig(Params() -) Block(Bad<a = bad + bad> Bad<bad> ExprS(Call(b []))))])"},
	})
}

// P14.2: a bad token is wrong at every place, with its own error, whatever that is; so are all of several ones.
func TestBadTokens(t *testing.T) {
	kinds := kindsOf(goodFile)
	errnos := []api.Errno{api.ErrCut, api.ErrDigit, api.ErrEscape, api.ErrToken, api.ErrUtf, api.ErrSyntax, api.ErrDeep, api.ErrOver, 0, -1, 26, 1000, math.MinInt, math.MaxInt}
	for i := range kinds {
		l := tokensOf(kinds)
		first, second := errnos[i%len(errnos)], errnos[(i+5)%len(errnos)]
		l[i] = api.Token{Kind: api.TkBad, From: i, To: i + 1, Err: first}
		x, d := File(l)
		if s := unsound(l, x, d, i); s != "" || d[0] != (api.Diag{Tok: i, Err: first}) {
			t.Fatal(i, s, d)
		}
		later := i + 1 + i%7
		if later >= len(l) {
			continue
		}
		l[later] = api.Token{Kind: api.TkBad, From: later, To: later + 1, Err: second}
		x, d = File(l)
		if s := unsound(l, x, d, i); s != "" || d[0] != (api.Diag{Tok: i, Err: first}) || !slices.Contains(d, api.Diag{Tok: later, Err: second}) {
			t.Fatal(i, later, s, d)
		}
	}
}

// P14.3: the offsets of tokens, whether they were inserted, and the Err of those that are not bad do not matter.
func TestKindsAlone(t *testing.T) {
	numbers := []int{math.MinInt, -1, 0, 1, 7, math.MaxInt}
	kinds := kindsOf(goodFile)
	for i := range len(kinds) + 1 {
		l := tokensOf(kinds)
		if i < len(l) {
			l[i].Kind = allKinds()[i%len(allKinds())]
		}
		x, d := File(l)
		for j := range l {
			l[j].From, l[j].To = numbers[(i+j)%6], numbers[(i+j/6)%6]
			l[j].Auto = (i+j)%3 == 0
			if l[j].Kind != api.TkBad {
				l[j].Err = api.Errno(numbers[j%6])
			}
		}
		if y, e := File(l); !reflect.DeepEqual(x, y) || !reflect.DeepEqual(d, e) {
			t.Fatal(i)
		}
	}
}

// P14.3: the error of a token that is not bad is ErrSyntax, whatever its Err is.
func TestErrOfOthers(t *testing.T) {
	for _, kind := range slices.Concat(allKinds(), strange) {
		l := tokensOf(append(kindsOf("package p ; var a ="), kind))
		l[len(l)-1].Err = api.ErrDigit
		_, d := File(append(l, tokensOf(kindsOf("= ;"))...))
		if kind != api.TkBad && (len(d) == 0 || d[0].Err != api.ErrSyntax) {
			t.Error(kind, d)
		}
	}
}

// The tokens are not changed, and a result has memory of its own.
func TestMemory(t *testing.T) {
	for _, words := range []string{"", goodFile, "package p ; var a = = b ; func c ( ) { d e ; f ( g ) ; } ; bad", aheadOfValue + strings.Repeat("- ", 300) + "a ;"} {
		l := tokensOf(kindsOf(words))
		x, d := File(l)
		if !slices.Equal(l, tokensOf(kindsOf(words))) {
			t.Error(words)
		}
		y, e := File(l)
		if !reflect.DeepEqual(x, y) || !reflect.DeepEqual(d, e) {
			t.Error(words)
		}
		for i := range y.Nodes {
			for j := range y.Nodes[i].Kids {
				y.Nodes[i].Kids[j] = -1
			}
			// What is put behind a node's children must not be those of another one.
			_ = append(y.Nodes[i].Kids, -2, -3)
			y.Nodes[i].Kind = -1
		}
		for i := range e {
			e[i].Tok = -1
		}
		clear(l)
		if z, f := File(tokensOf(kindsOf(words))); !reflect.DeepEqual(x, z) || !reflect.DeepEqual(d, f) {
			t.Error(words)
		}
	}
	if x, d := File(nil); !reflect.DeepEqual(x, first(File([]api.Token{}))) || len(d) != 1 {
		t.Error(x, d)
	}
}

func first(x api.Tree, _ []api.Diag) api.Tree { return x }
