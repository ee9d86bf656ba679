package parse

import (
	"strings"
	"testing"
)

// sample is words, and the tree that they are to have.
type sample struct{ words, tree string }

// expectSamples expects of each sample, with some words ahead of it and behind it, its tree at its place in the whole one.
func expectSamples(t *testing.T, l []sample, ahead, behind, above, below string) {
	t.Helper()
	for _, s := range l {
		words := ahead + s.words + behind
		x, _ := expectFirst(t, kindsOf(words), -1)
		if got := show(x, strings.Fields(words)); got != above+s.tree+below {
			t.Errorf("%s: %s, want %s", words, got, above+s.tree+below)
		}
	}
}

// P14.1, P14.3: each form of the nodes, with the edges beside it.
func TestForms(t *testing.T) {
	expectSamples(t, fileSamples(), "", "", "", "")
	expectSamples(t, declSamples(), "package p ; ", " ;", "File(p [] [", "])")
	expectSamples(t, typeSamples(), "package p ; var v ", " ;", "File(p [] [VarDecl(VarSpec([v] ", " -))])")
	expectSamples(t, stmtSamples(), "package p ; func f ( ) { ", " } ;", "File(p [] [Func(- f - Sig(Params() -) Block(", "))])")
	expectSamples(t, exprSamples(), "package p ; var v = ", " ;", "File(p [] [VarDecl(VarSpec([v] - [", "]))])")
}

// fileSamples are whole files.
func fileSamples() []sample {
	return []sample{
		{"package p ;", "File(p [] [])"},
		{`package p ; import "a" ; import b "c" ; import ( ) ; import ( "d" ; e "f" ; ) ;`, `File(p [ImportDecl(Import(- "a")) ImportDecl(Import(b "c")) ImportDecl() ImportDecl(Import(- "d") Import(e "f"))] [])`},
		{`package p ; import "a" ; var b c ; func d ( ) { } ;`, `File(p [ImportDecl(Import(- "a"))] [VarDecl(VarSpec([b] c -)) Func(- d - Sig(Params() -) Block())])`},
	}
}

// declSamples are declarations.
func declSamples() []sample {
	return []sample{
		{"const a = 1", "ConstDecl(ConstSpec([a] - [1]))"},
		{"const a , b c = 1 , d", "ConstDecl(ConstSpec([a b] c [1 d]))"},
		{"const ( a = 1 ; b )", "ConstDecl(ConstSpec([a] - [1]) ConstSpec([b] - -))"},
		{"const ( )", "ConstDecl()"},
		{"var a b", "VarDecl(VarSpec([a] b -))"},
		{"var a , b c = 1 , 2", "VarDecl(VarSpec([a b] c [1 2]))"},
		{"var a = b", "VarDecl(VarSpec([a] - [b]))"},
		{"var ( a b ; c = d ; )", "VarDecl(VarSpec([a] b -) VarSpec([c] - [d]))"},
		{"type a b", "TypeDecl(TypeSpec(a - b))"},
		{"type a [ ] b", "TypeDecl(TypeSpec(a - SliceT(b)))"},
		{"type a [ 5 ] b", "TypeDecl(TypeSpec(a - ArrayT(5 b)))"},
		{"type a [ n ] b", "TypeDecl(TypeSpec(a - ArrayT(n b)))"},
		{"type a [ n . m ] b", "TypeDecl(TypeSpec(a - ArrayT(Selector(n m) b)))"},
		{"type a [ b c ] d", "TypeDecl(TypeSpec(a [TParam([b] Union(Term(c)))] d))"},
		{"type a [ b , c d , e ~ f | [ ] g , ] h", "TypeDecl(TypeSpec(a [TParam([b c] Union(Term(d))) TParam([e] Union(Term(f) Term(SliceT(g))))] h))"},
		{"type a [ b * c ] d", "TypeDecl(TypeSpec(a [TParam([b] Union(Term(Pointer(c))))] d))"},
		{"type a [ b ( c ) ] d", "TypeDecl(TypeSpec(a [TParam([b] Union(Term(Paren(c))))] d))"},
		{"type a [ b [ c ] d ] e", "TypeDecl(TypeSpec(a [TParam([b] Union(Term(ArrayT(c d))))] e))"},
		{"type ( a b ; c [ d e ] f )", "TypeDecl(TypeSpec(a - b) TypeSpec(c [TParam([d] Union(Term(e)))] f))"},
		{"func a ( ) { }", "Func(- a - Sig(Params() -) Block())"},
		{"func a [ b c ] ( ) { }", "Func(- a [TParam([b] Union(Term(c)))] Sig(Params() -) Block())"},
		{"func ( a ) b ( ) { }", "Func(Recv(- a -) b - Sig(Params() -) Block())"},
		{"func ( * a ) b ( ) { }", "Func(Recv(- a -) b - Sig(Params() -) Block())"},
		{"func ( a b ) c ( ) { }", "Func(Recv(a b -) c - Sig(Params() -) Block())"},
		{"func ( a * b ) c ( ) { }", "Func(Recv(a b -) c - Sig(Params() -) Block())"},
		{"func ( a b [ c , d ] ) e ( ) { }", "Func(Recv(a b [c d]) e - Sig(Params() -) Block())"},
		{"func ( * a [ b ] ) c ( ) { }", "Func(Recv(- a [b]) c - Sig(Params() -) Block())"},
		{"func a ( b c , d ... e ) { }", "Func(- a - Sig(Params(Param(b c) Param(d e)) -) Block())"},
		{"func a ( b , ... c , ) ( d , e f ) { }", "Func(- a - Sig(Params(Param(- b) Param(- c)) Params(Param(- d) Param(e f))) Block())"},
		{"func a ( ) ( b ) { }", "Func(- a - Sig(Params() Params(Param(- b))) Block())"},
		{"func a ( ) b { }", "Func(- a - Sig(Params() b) Block())"},
		{"func a ( ) func ( ) b { }", "Func(- a - Sig(Params() FuncT(Sig(Params() b))) Block())"},
		{"func a ( ) func ( ) ( b ) { }", "Func(- a - Sig(Params() FuncT(Sig(Params() Params(Param(- b))))) Block())"},
		{"func a ( b [ n ] c , d [ e ] , f [ ] g , h [ 5 ] i , j . k [ l ] , m [ n , ] , o [ p . q ] r , s [ t . u ] ) { }", "Func(- a - Sig(Params(Param(b ArrayT(n c)) Param(- Index(d [e])) Param(f SliceT(g)) Param(h ArrayT(5 i)) Param(- Index(Selector(j k) [l])) Param(- Index(m [n])) Param(o ArrayT(Selector(p q) r)) Param(- Index(s [Selector(t u)]))) -) Block())"},
		{"func a ( b ( c ) , d * e , f func ( ) , g <- chan h , i chan j , k map [ l ] m , n struct { } , o interface { } ) { }", "Func(- a - Sig(Params(Param(b Paren(c)) Param(d Pointer(e)) Param(f FuncT(Sig(Params() -))) Param(g ChanT(h)) Param(i ChanT(j)) Param(k MapT(l m)) Param(n StructT()) Param(o InterT())) -) Block())"},
	}
}

// typeSamples are types.
func typeSamples() []sample {
	return []sample{
		{"a", "a"},
		{"a . b", "Selector(a b)"},
		{"a [ b , c , ]", "Index(a [b c])"},
		{"a . b [ * c ]", "Index(Selector(a b) [Pointer(c)])"},
		{"( a )", "Paren(a)"},
		{"( * a )", "Paren(Pointer(a))"},
		{"* * a", "Pointer(Pointer(a))"},
		{"[ ] a", "SliceT(a)"},
		{"[ 5 ] a", "ArrayT(5 a)"},
		{"[ n ] a", "ArrayT(n a)"},
		{"[ n . m ] a", "ArrayT(Selector(n m) a)"},
		{"map [ a ] b", "MapT(a b)"},
		{"chan a", "ChanT(a)"},
		{"chan <- a", "ChanT(a)"},
		{"<- chan a", "ChanT(a)"},
		{"chan <- chan a", "ChanT(ChanT(a))"},
		{"chan ( <- chan a )", "ChanT(Paren(ChanT(a)))"},
		{"<- chan ( chan <- a )", "ChanT(Paren(ChanT(a)))"},
		{"func ( )", "FuncT(Sig(Params() -))"},
		{"func ( a ) b", "FuncT(Sig(Params(Param(- a)) b))"},
		{"struct { }", "StructT()"},
		{"struct { a ; * b ; c . d ; * e . f ; g [ h ] ; i . j [ k ] ; }", "StructT(Field(- a) Field(- Pointer(b)) Field(- Selector(c d)) Field(- Pointer(Selector(e f))) Field(- Index(g [h])) Field(- Index(Selector(i j) [k])))"},
		{"struct { a , b c ; d * e ; f ( g ) ; h [ n ] i ; j [ ] k ; l [ 5 ] m ; n [ o . p ] q ; r func ( ) }", "StructT(Field([a b] c) Field([d] Pointer(e)) Field([f] Paren(g)) Field([h] ArrayT(n i)) Field([j] SliceT(k)) Field([l] ArrayT(5 m)) Field([n] ArrayT(Selector(o p) q)) Field([r] FuncT(Sig(Params() -))))"},
		{"interface { }", "InterT()"},
		{"interface { a ( ) ; b ( c ) d ; e ; f . g ; h [ i ] ; ~ j | * k ; }", "InterT(Method(a Sig(Params() -)) Method(b Sig(Params(Param(- c)) d)) Union(Term(e)) Union(Term(Selector(f g))) Union(Term(Index(h [i]))) Union(Term(j) Term(Pointer(k))))"},
	}
}

// stmtSamples are statements.
func stmtSamples() []sample {
	return []sample{
		{"", ""},
		{"; ; ", ""},
		{"const a = 1 ; var b c", "ConstDecl(ConstSpec([a] - [1])) VarDecl(VarSpec([b] c -))"},
		{"type a b", "TypeDecl(TypeSpec(a - b))"},
		{"a : ", "Label(a -)"},
		{"a : b : c ( )", "Label(a Label(b ExprS(Call(c []))))"},
		{"a : { }", "Label(a Block())"},
		{"a", "ExprS(a)"},
		{"a <- b", "Send(a b)"},
		{"a ++ ; b . c --", "IncDec(a) IncDec(Selector(b c))"},
		{"a = b", "Assign([a] [b])"},
		{"a , b . c = d , e", "Assign([a Selector(b c)] [d e])"},
		{"a &^= b", "Assign([a] [b])"},
		{"a := b", "Define([a] [b])"},
		{"a , b := c , d", "Define([a b] [c d])"},
		{"go a ( ) ; defer b ( )", "Go(Call(a [])) Defer(Call(b []))"},
		{"return ; return a , b", "Return(-) Return([a b])"},
		{"break ; break a ; continue ; continue b ; goto c ; fallthrough", "Break(-) Break(a) Continue(-) Continue(b) Goto(c) Fall()"},
		{"{ a ; { } ; }", "Block(ExprS(a) Block())"},
		{"if a { b } ", "If(- a Block(ExprS(b)) -)"},
		{"if a := b ; c { } else { d }", "If(Define([a] [b]) c Block() Block(ExprS(d)))"},
		{"if a ( ) ; b { } else if c { } else if d ; e { } else { }", "If(ExprS(Call(a [])) b Block() If(- c Block() If(ExprS(d) e Block() Block())))"},
		{"switch { }", "Switch(- - [])"},
		{"switch a { case b , c : d ; e ; case f : ; default : }", "Switch(- a [Case([b c] [ExprS(d) ExprS(e)]) Case([f] []) Case(- [])])"},
		{"switch a := b ; { default : }", "Switch(Define([a] [b]) - [Case(- [])])"},
		{"switch a = b ; c { }", "Switch(Assign([a] [b]) c [])"},
		{"switch a . ( type ) { case b , * c , [ ] d , func ( ) , nil : }", "TypeSwitch(- Guard(- a) [Case([b Unary(c) SliceT(d) FuncT(Sig(Params() -)) nil] [])])"},
		{"switch a := b . ( type ) { }", "TypeSwitch(- Guard(a b) [])"},
		{"switch a ++ ; b ( ) [ 1 ] . ( type ) { }", "TypeSwitch(IncDec(a) Guard(- Index(Call(b []) [1])) [])"},
		{"switch a <- b ; c := d . ( e ) . ( type ) { }", "TypeSwitch(Send(a b) Guard(c Assert(d e)) [])"},
		{"switch a := b ; c := d . ( type ) { }", "TypeSwitch(Define([a] [b]) Guard(c d) [])"},
		{"switch ( a { } ) { }", "Switch(- Paren(CompLit(a Elems())) [])"},
		{"switch ( a ) . ( type ) { }", "TypeSwitch(- Guard(- Paren(a)) [])"},
		{"switch a { case b : c : ; case d : e : f }", "Switch(- a [Case([b] [Label(c -)]) Case([d] [Label(e ExprS(f))])])"},
		{"select { }", "Select()"},
		{"select { case a <- b : c ; case <- d : ; case e , f := <- g : ; case h = <- i : ; default : j }", "Select(Comm(Send(a b) [ExprS(c)]) Comm(ExprS(Unary(d)) []) Comm(Define([e f] [Unary(g)]) []) Comm(Assign([h] [Unary(i)]) []) Comm(- [ExprS(j)]))"},
		{"for { }", "For(- - - Block())"},
		{"for a { b }", "For(- a - Block(ExprS(b)))"},
		{"for a := b ; a < c ; a ++ { d }", "For(Define([a] [b]) Binary(a c) IncDec(a) Block(ExprS(d)))"},
		{"for ; ; { }", "For(- - - Block())"},
		{"for a ; ; { }", "For(ExprS(a) - - Block())"},
		{"for ; a ; { }", "For(- a - Block())"},
		{"for ; ; a { }", "For(- - ExprS(a) Block())"},
		{"for range a { }", "Range(- a Block())"},
		{"for a := range b { }", "Range([a] b Block())"},
		{"for a , b := range c { }", "Range([a b] c Block())"},
		{"for a [ b ] , c . d = range e { }", "Range([Index(a [b]) Selector(c d)] e Block())"},
		{"if a == ( b { } ) { }", "If(- Binary(a Paren(CompLit(b Elems()))) Block() -)"},
		{"if a ( b { } ) [ c { } ] { }", "If(- Index(Call(a [CompLit(b Elems())]) [CompLit(c Elems())]) Block() -)"},
		{"for [ ] a { b { } } { }", "For(- CompLit(SliceT(a) Elems(CompLit(b Elems()))) - Block())"},
		{"if func ( ) a { b { } } ( ) { }", "If(- Call(FuncLit(Sig(Params() a) Block(ExprS(CompLit(b Elems())))) []) Block() -)"},
		{"for range struct { } { } { }", "Range(- CompLit(StructT() Elems()) Block())"},
		{"if a { } ; b { } ; { }", "If(- a Block() -) ExprS(CompLit(b Elems())) Block()"},
	}
}

// exprSamples are expressions, with types where both may stand.
func exprSamples() []sample {
	return []sample{
		{"a", "a"},
		{"1 + 2 * 3", "Binary(1 Binary(2 3))"},
		{"1 * 2 + 3", "Binary(Binary(1 2) 3)"},
		{"a - b - c", "Binary(Binary(a b) c)"},
		{"a || b && c == d + e * f", "Binary(a Binary(b Binary(c Binary(d Binary(e f)))))"},
		{"a * b + c == d && e || f", "Binary(Binary(Binary(Binary(Binary(a b) c) d) e) f)"},
		{"a << b >> c & d &^ e / f % g", "Binary(Binary(Binary(Binary(Binary(Binary(a b) c) d) e) f) g)"},
		{"a + b - c | d ^ e", "Binary(Binary(Binary(Binary(a b) c) d) e)"},
		{"a == b != c < d <= e > f >= g", "Binary(Binary(Binary(Binary(Binary(Binary(a b) c) d) e) f) g)"},
		{"- a * b", "Binary(Unary(a) b)"},
		{"! ( a || b )", "Unary(Paren(Binary(a b)))"},
		{"- - a . b", "Unary(Unary(Selector(a b)))"},
		{"& a { }", "Unary(CompLit(a Elems()))"},
		{"* a . b [ c ] ( d )", "Unary(Call(Index(Selector(a b) [c]) [d]))"},
		{"<- a", "Unary(a)"},
		{"<- <- a", "Unary(Unary(a))"},
		{"^ + a", "Unary(Unary(a))"},
		{`"a" + 'b' + 1.5`, `Binary(Binary("a" 'b') 1.5)`},
		{"a . b . c", "Selector(Selector(a b) c)"},
		{"a . ( b ) . ( * c )", "Assert(Assert(a b) Pointer(c))"},
		{"a [ b ] [ c , ] [ d , [ ] e , ]", "Index(Index(Index(a [b]) [c]) [d SliceT(e)])"},
		{"a [ : ] [ b : ] [ : c ] [ d : e ] [ : f : g ] [ h : i : j ]", "SliceX(SliceX(SliceX(SliceX(SliceX(SliceX(a - - -) b - -) - c -) d e -) - f g) h i j)"},
		{"a ( ) ( b ) ( c , ) ( d , e ... ) ( f ... , )", "Call(Call(Call(Call(Call(a []) [b]) [c]) [d e]) [f])"},
		{"a ( [ ] b , * c , * [ ] d , func ( ) , <- chan e , map [ f ] g , chan h , chan <- i , interface { } , struct { } )", "Call(a [SliceT(b) Unary(c) Unary(SliceT(d)) FuncT(Sig(Params() -)) Unary(ChanT(e)) MapT(f g) ChanT(h) ChanT(i) InterT() StructT()])"},
		{"a ( * <- chan b , ( * c ) , ( [ ] d ) , e [ * f ] , [ ] * g )", "Call(a [Unary(Unary(ChanT(b))) Paren(Unary(c)) Paren(SliceT(d)) Index(e [Unary(f)]) SliceT(Pointer(g))])"},
		{"a { }", "CompLit(a Elems())"},
		{"a . b { c , d }", "CompLit(Selector(a b) Elems(c d))"},
		{"a { b : c , d : e , }", "CompLit(a Elems(KeyValue(b c) KeyValue(d e)))"},
		{"a { { } , { b , { c : d } } : { } }", "CompLit(a Elems(Elems() KeyValue(Elems(b Elems(KeyValue(c d))) Elems())))"},
		{"a [ b , * c ] { }", "CompLit(Index(a [b Pointer(c)]) Elems())"},
		{"a [ ( * b ) , <- chan c , d [ * e ] , * <- chan f ] { }", "CompLit(Index(a [Paren(Pointer(b)) ChanT(c) Index(d [Pointer(e)]) Pointer(ChanT(f))]) Elems())"},
		{"a . b [ c . d ] { }", "CompLit(Index(Selector(a b) [Selector(c d)]) Elems())"},
		{"[ ] a { b }", "CompLit(SliceT(a) Elems(b))"},
		{"[ 3 ] a { 1 : b }", "CompLit(ArrayT(3 a) Elems(KeyValue(1 b)))"},
		{"[ n . m ] a { }", "CompLit(ArrayT(Selector(n m) a) Elems())"},
		{"[ ... ] a { }", "CompLit(ArrayT(- a) Elems())"},
		{"[ ... ] func ( ) { }", "CompLit(ArrayT(- FuncT(Sig(Params() -))) Elems())"},
		{"map [ a ] b { c : d }", "CompLit(MapT(a b) Elems(KeyValue(c d)))"},
		{"struct { a b } { c }", "CompLit(StructT(Field([a] b)) Elems(c))"},
		{"[ ] func ( ) a { b }", "CompLit(SliceT(FuncT(Sig(Params() a))) Elems(b))"},
		{"[ ] a ( b )", "Call(SliceT(a) [b])"},
		{"chan a ( b )", "Call(ChanT(a) [b])"},
		{"chan <- a ( b )", "Call(ChanT(a) [b])"},
		{"<- chan a ( b )", "Unary(Call(ChanT(a) [b]))"},
		{"<- chan <- a ( b )", "Unary(Call(ChanT(a) [b]))"},
		{"interface { } ( a )", "Call(InterT() [a])"},
		{"map [ a ] * b ( c )", "Call(MapT(a Pointer(b)) [c])"},
		{"( [ ] func ( ) ) ( a )", "Call(Paren(SliceT(FuncT(Sig(Params() -)))) [a])"},
		{"( func ( ) ) ( a )", "Call(Paren(FuncT(Sig(Params() -))) [a])"},
		{"( chan a )", "Paren(ChanT(a))"},
		{"( <- chan a ) ( b )", "Call(Paren(Unary(ChanT(a))) [b])"},
		{"( a ) . b", "Selector(Paren(a) b)"},
		{"func ( a b ) c { return d }", "FuncLit(Sig(Params(Param(a b)) c) Block(Return([d])))"},
		{"func ( ) { } ( )", "Call(FuncLit(Sig(Params() -) Block()) [])"},
		{"[ ] a { } [ b ]", "Index(CompLit(SliceT(a) Elems()) [b])"},
		{"a { } . b", "Selector(CompLit(a Elems()) b)"},
	}
}

// precedences are the binary operators as chapter 6 lists them, those that bind least first.
func precedences() []string {
	return []string{"||", "&&", "== != < <= > >=", "+ - | ^", "* / % << >> & &^"}
}

// levels returns the binary operators, each with its precedence.
func levels() map[string]int {
	l := map[string]int{}
	for i, operators := range precedences() {
		for _, operator := range strings.Fields(operators) {
			l[operator] = i
		}
	}
	return l
}

// P14.1: each two and each three binary operators beside each other, in a header and elsewhere.
func TestPrecedences(t *testing.T) {
	of := levels()
	var pair, triple []sample
	for a, p := range of {
		for b, q := range of {
			tree := "Binary(Binary(1 2) 3)"
			if q > p {
				tree = "Binary(1 Binary(2 3))"
			}
			pair = append(pair, sample{"1 " + a + " 2 " + b + " 3", tree})
			for c, r := range of {
				triple = append(triple, sample{"1 " + a + " 2 " + b + " 3 " + c + " 4", ofThree(p, q, r)})
			}
		}
	}
	for _, l := range [][]sample{pair, triple} {
		expectSamples(t, l, "package p ; var v = ", " ;", "File(p [] [VarDecl(VarSpec([v] - [", "]))])")
	}
	expectSamples(t, pair, "package p ; func f ( ) { if ", " { } } ;", "File(p [] [Func(- f - Sig(Params() -) Block(If(- ", " Block() -)))])")
}

// ofThree returns the tree of four operands with operators of these precedences between them.
func ofThree(p, q, r int) string {
	switch {
	case r <= min(p, q) && q <= p:
		return "Binary(Binary(Binary(1 2) 3) 4)"
	case r <= min(p, q):
		return "Binary(Binary(1 Binary(2 3)) 4)"
	case q <= p: // and r is more than q
		return "Binary(Binary(1 2) Binary(3 4))"
	case r <= q: // which is more than p, as is r
		return "Binary(1 Binary(Binary(2 3) 4))"
	}
	return "Binary(1 Binary(2 Binary(3 4)))"
}
