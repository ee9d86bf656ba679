package parse

import (
	"strings"

	"cavil/api"
	"cavil/token"
)

// printed is grammar G as the chapter prints it.
const printed = `
File = package name ; Imports Decls
Imports =
Imports = Import ; Imports
Import = import ImportSpec
Import = import ( ImportSpecs )
ImportSpecs =
ImportSpecs = ImportSpec
ImportSpecs = ImportSpec ; ImportSpecs
ImportSpec = string
ImportSpec = name string
Decls =
Decls = Decl ; Decls
Decl = Const
Decl = Var
Decl = Type
Decl = Func
Const = const ConstSpec
Const = const ( ConstSpecs )
ConstSpecs =
ConstSpecs = ConstSpec
ConstSpecs = ConstSpec ; ConstSpecs
ConstSpec = Names
ConstSpec = Names = Exprs
ConstSpec = Names T = Exprs
Var = var VarSpec
Var = var ( VarSpecs )
VarSpecs =
VarSpecs = VarSpec
VarSpecs = VarSpec ; VarSpecs
VarSpec = Names T
VarSpec = Names T = Exprs
VarSpec = Names = Exprs
Type = type TypeSpec
Type = type ( TypeSpecs )
TypeSpecs =
TypeSpecs = TypeSpec
TypeSpecs = TypeSpec ; TypeSpecs
TypeSpec = name T
TypeSpec = name [ TParams ] T
TParams = TParam
TParams = TParam ,
TParams = TParam , TParams
TParam = Names Union
Union = Term
Union = Term | Union
Term = T
Term = ~ T
Names = name
Names = name , Names
Func = func name Sig Block
Func = func name [ TParams ] Sig Block
Func = func Recv name Sig Block
Recv = ( RType )
Recv = ( * RType )
Recv = ( name RType )
Recv = ( name * RType )
RType = name
RType = name [ Names ]
Sig = Params
Sig = Params Params
Sig = Params T
Params = ( )
Params = ( ParamList )
Params = ( ParamList , )
ParamList = Param
ParamList = Param , ParamList
Param = T
Param = name T
Param = ... T
Param = name ... T
T = T1
T = <- chan T1
T1 = TName
T1 = * T
T1 = ( T )
T1 = func Sig
T1 = TLit
TName = name
TName = name . name
TName = name [ TList ]
TName = name . name [ TList ]
TList = T
TList = T ,
TList = T , TList
TLit = CLit
TLit = chan T1
TLit = chan <- T
TLit = interface { Elems }
CLit = [ ] T
CLit = [ Len ] T
CLit = map [ T ] T
CLit = struct { Fields }
NT = NT1
NT = <- chan NT1
NT1 = TName
NT1 = * NT
NT1 = ( T )
NT1 = NLit
NLit = [ ] NT
NLit = [ Len ] NT
NLit = map [ T ] NT
NLit = struct { Fields }
NLit = chan NT1
NLit = chan <- NT
NLit = interface { Elems }
Len = int
Len = name
Len = name . name
Fields =
Fields = Field
Fields = Field ; Fields
Field = Names T
Field = TName
Field = * TName
Elems =
Elems = Elem
Elems = Elem ; Elems
Elem = name Sig
Elem = Union
Block = { Stmts }
Stmts = Stmt
Stmts = Stmt ; Stmts
Stmt =
Stmt = Const
Stmt = Var
Stmt = type LocalSpec
Stmt = name : Stmt
Stmt = Simple
Stmt = go Expr
Stmt = defer Expr
Stmt = return
Stmt = return Exprs
Stmt = break
Stmt = break name
Stmt = continue
Stmt = continue name
Stmt = goto name
Stmt = fallthrough
Stmt = Block
Stmt = If
Stmt = Switch
Stmt = select { Comms }
Stmt = For
LocalSpec = name T
Simple = Expr
Simple = Expr <- Expr
Simple = Expr ++
Simple = Expr --
Simple = Exprs = Exprs
Simple = Expr OpAssign Expr
Simple = Names := Exprs
HSimple = HExpr
HSimple = HExpr <- HExpr
HSimple = HExpr ++
HSimple = HExpr --
HSimple = HExprs = HExprs
HSimple = HExpr OpAssign HExpr
HSimple = Names := HExprs
If = if HExpr Block Else
If = if HSimple ; HExpr Block Else
Else =
Else = else If
Else = else Block
Switch = switch { Cases }
Switch = switch HExpr { Cases }
Switch = switch Guard { Cases }
Switch = switch HSimple ; { Cases }
Switch = switch HSimple ; HExpr { Cases }
Switch = switch HSimple ; Guard { Cases }
Guard = HPrim . ( type )
Guard = name := HPrim . ( type )
Cases =
Cases = Case Cases
Case = case CaseItems : Stmts
Case = default : Stmts
CaseItems = Item
CaseItems = Item , CaseItems
Comms =
Comms = Comm Comms
Comm = case Simple : Stmts
Comm = default : Stmts
For = for Block
For = for HExpr Block
For = for HInit ; HCond ; HInit Block
For = for range HExpr Block
For = for HExprs = range HExpr Block
For = for Names := range HExpr Block
HInit =
HInit = HSimple
HCond =
HCond = HExpr
Exprs = Expr
Exprs = Expr , Exprs
HExprs = HExpr
HExprs = HExpr , HExprs
Expr = Un
Expr = Un Bin Expr
HExpr = HUn
HExpr = HUn Bin HExpr
Un = Prim
Un = UnOp Un
HUn = HPrim
HUn = UnOp HUn
Prim = Operand
Prim = TName Body
Prim = Prim Suffix
HPrim = Operand
HPrim = HPrim Suffix
Operand = int
Operand = float
Operand = char
Operand = string
Operand = name
Operand = ( Item )
Operand = func Sig Block
Operand = CLit Body
Operand = [ ... ] T Body
Operand = NLit Args
Suffix = . name
Suffix = . ( T )
Suffix = [ Items ]
Suffix = [ Slice ]
Suffix = Args
Slice = :
Slice = Expr :
Slice = : Expr
Slice = Expr : Expr
Slice = : Expr : Expr
Slice = Expr : Expr : Expr
Args = ( )
Args = ( Items )
Args = ( DotItems )
DotItems = Expr ...
DotItems = Expr ... ,
DotItems = Item , DotItems
Items = Item
Items = Item ,
Items = Item , Items
Item = Expr
Item = T
Body = { }
Body = { ElemList }
Body = { ElemList , }
ElemList = El
ElemList = El , ElemList
El = Val
El = Val : Val
Val = Expr
Val = Body
Bin = ||
Bin = &&
Bin = ==
Bin = !=
Bin = <
Bin = <=
Bin = >
Bin = >=
Bin = +
Bin = -
Bin = |
Bin = ^
Bin = *
Bin = /
Bin = %
Bin = <<
Bin = >>
Bin = &
Bin = &^
UnOp = +
UnOp = -
UnOp = !
UnOp = ^
UnOp = *
UnOp = &
UnOp = <-
OpAssign = +=
OpAssign = -=
OpAssign = *=
OpAssign = /=
OpAssign = %=
OpAssign = &=
OpAssign = |=
OpAssign = ^=
OpAssign = <<=
OpAssign = >>=
OpAssign = &^=
`

// allKinds is every kind of a token.
func allKinds() []int {
	var l []int
	for kind := api.TkName; kind <= api.TkColon; kind++ {
		if token.Spell(kind) != "" || kind == api.TkBad {
			l = append(l, kind)
		}
	}
	return l
}

// symbol is a terminal, as a kind of tokens, or a nonterminal, as a number below 0.
type symbol int

// production is a line of the grammar.
type production struct {
	text  string
	left  symbol
	right []symbol
}

// grammar is productions, by their nonterminals: those of nonterminal -n are of[n].
type grammar struct {
	names []string
	lines []production
	of    [][]int
	empty []bool // whether nothing derives from a nonterminal
}

// readGrammar reads productions: a word is a terminal if it is the text of a kind.
func readGrammar(text string) *grammar {
	g := &grammar{names: []string{""}, of: [][]int{nil}}
	terminals := map[string]symbol{}
	for _, kind := range allKinds() {
		if kind != api.TkBad {
			terminals[token.Spell(kind)] = symbol(kind)
		}
	}
	numbers := map[string]symbol{}
	number := func(word string) symbol {
		if numbers[word] == 0 {
			numbers[word] = symbol(-len(g.names))
			g.names = append(g.names, word)
			g.of = append(g.of, nil)
		}
		return numbers[word]
	}
	for _, line := range strings.Split(strings.TrimSpace(text), "\n") {
		words := strings.Fields(line)
		p := production{text: line, left: number(words[0])}
		for _, word := range words[2:] {
			if s, ok := terminals[word]; ok {
				p.right = append(p.right, s)
			} else {
				p.right = append(p.right, number(word))
			}
		}
		g.of[-p.left] = append(g.of[-p.left], len(g.lines))
		g.lines = append(g.lines, p)
	}
	g.findEmpty()
	return g
}

// findEmpty tells from which nonterminals nothing derives.
func (g *grammar) findEmpty() {
	g.empty = make([]bool, len(g.names))
	for changed := true; changed; {
		changed = false
		for _, p := range g.lines {
			all := true
			for _, s := range p.right {
				all = all && s < 0 && g.empty[-s]
			}
			if all && !g.empty[-p.left] {
				g.empty[-p.left] = true
				changed = true
			}
		}
	}
}

// spot is a place within a production, whose part ahead of it derives the tokens from origin on.
type spot struct {
	line, at, origin int
}

// column is all spots behind so many tokens, and where they are by the symbol that follows.
type column struct {
	spots   []spot
	seen    map[spot]bool
	waiting map[symbol][]spot
}

// recognizer tells of tokens, one after the other, whether they begin a sentence of the grammar's first nonterminal, and whether they are one.
type recognizer struct {
	g       *grammar
	columns []*column
}

func newRecognizer(g *grammar) *recognizer {
	r := &recognizer{g: g}
	var first []spot
	for _, line := range g.of[1] {
		first = append(first, spot{line: line})
	}
	r.grow(first)
	return r
}

// grow adds a column that has these spots.
func (r *recognizer) grow(l []spot) {
	c := &column{seen: map[spot]bool{}, waiting: map[symbol][]spot{}}
	r.columns = append(r.columns, c)
	add := func(s spot) {
		if !c.seen[s] {
			c.seen[s] = true
			c.spots = append(c.spots, s)
		}
	}
	for _, s := range l {
		add(s)
	}
	for i := 0; i < len(c.spots); i++ {
		s := c.spots[i]
		right := r.g.lines[s.line].right
		if s.at == len(right) {
			left := r.g.lines[s.line].left
			for _, w := range r.columns[s.origin].waiting[left] {
				add(spot{w.line, w.at + 1, w.origin})
			}
			continue
		}
		next := right[s.at]
		c.waiting[next] = append(c.waiting[next], s)
		if next > 0 {
			continue
		}
		if r.g.empty[-next] {
			add(spot{s.line, s.at + 1, s.origin})
		}
		for _, line := range r.g.of[-next] {
			add(spot{line, 0, len(r.columns) - 1})
		}
	}
}

// last is the column behind all tokens.
func (r *recognizer) last() *column { return r.columns[len(r.columns)-1] }

// viable reports whether a token of the kind can follow.
func (r *recognizer) viable(kind int) bool {
	return len(r.last().waiting[symbol(kind)]) > 0
}

// push takes a token that can follow.
func (r *recognizer) push(kind int) {
	var l []spot
	for _, w := range r.last().waiting[symbol(kind)] {
		l = append(l, spot{w.line, w.at + 1, w.origin})
	}
	r.grow(l)
}

// pop takes the last token back.
func (r *recognizer) pop() { r.columns = r.columns[:len(r.columns)-1] }

// derives reports whether the tokens are a sentence.
func (r *recognizer) derives() bool {
	for _, s := range r.last().spots {
		p := r.g.lines[s.line]
		if p.left == -1 && s.origin == 0 && s.at == len(p.right) {
			return true
		}
	}
	return false
}

// firstError returns the first token with which the tokens begin no sentence, their number if there is none, or -1 if they are a sentence.
func (g *grammar) firstError(kinds []int) int {
	r := newRecognizer(g)
	for i, kind := range kinds {
		if !r.viable(kind) {
			return i
		}
		r.push(kind)
	}
	if r.derives() {
		return -1
	}
	return len(kinds)
}
