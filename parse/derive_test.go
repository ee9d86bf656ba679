package parse

import (
	"math/rand"
	"slices"
	"strconv"
	"strings"
	"testing"

	"cavil/api"
	"cavil/token"
)

// shapes tells for productions what nodes the chapter makes of them: a number stands for what the symbol at that place makes, with a ? for Empty if that is nothing; - for Empty, [..] for a List, ^ for what a suffix stands behind. A production that is not here makes what its symbols make. A name makes a Name, a literal a Lit.
const shapes = `
File = package name ; Imports Decls => File(2 [4] [5])
Import = import ImportSpec => ImportDecl(2)
Import = import ( ImportSpecs ) => ImportDecl(3)
ImportSpec = string => Import(- 1)
ImportSpec = name string => Import(1 2)
Const = const ConstSpec => ConstDecl(2)
Const = const ( ConstSpecs ) => ConstDecl(3)
ConstSpec = Names => ConstSpec([1] - -)
ConstSpec = Names = Exprs => ConstSpec([1] - [3])
ConstSpec = Names T = Exprs => ConstSpec([1] 2 [4])
Var = var VarSpec => VarDecl(2)
Var = var ( VarSpecs ) => VarDecl(3)
VarSpec = Names T => VarSpec([1] 2 -)
VarSpec = Names T = Exprs => VarSpec([1] 2 [4])
VarSpec = Names = Exprs => VarSpec([1] - [3])
Type = type TypeSpec => TypeDecl(2)
Type = type ( TypeSpecs ) => TypeDecl(3)
TypeSpec = name T => TypeSpec(1 - 2)
TypeSpec = name [ TParams ] T => TypeSpec(1 [3] 5)
TParam = Names Union => TParam([1] Union(2))
Term = T => Term(1)
Term = ~ T => Term(2)
Func = func name Sig Block => Func(- 2 - 3 4)
Func = func name [ TParams ] Sig Block => Func(- 2 [4] 6 7)
Func = func Recv name Sig Block => Func(2 3 - 4 5)
Recv = ( RType ) => Recv(- 2)
Recv = ( * RType ) => Recv(- 3)
Recv = ( name RType ) => Recv(2 3)
Recv = ( name * RType ) => Recv(2 4)
RType = name => 1 -
RType = name [ Names ] => 1 [3]
Sig = Params => Sig(1 -)
Sig = Params Params => Sig(1 2)
Sig = Params T => Sig(1 2)
Params = ( ) => Params()
Params = ( ParamList ) => Params(2)
Params = ( ParamList , ) => Params(2)
Param = T => Param(- 1)
Param = name T => Param(1 2)
Param = ... T => Param(- 2)
Param = name ... T => Param(1 3)
T = <- chan T1 => ChanT(3)
T1 = * T => Pointer(2)
T1 = ( T ) => Paren(2)
T1 = func Sig => FuncT(2)
TName = name . name => Selector(1 3)
TName = name [ TList ] => Index(1 [3])
TName = name . name [ TList ] => Index(Selector(1 3) [5])
TLit = chan T1 => ChanT(2)
TLit = chan <- T => ChanT(3)
TLit = interface { Elems } => InterT(3)
CLit = [ ] T => SliceT(3)
CLit = [ Len ] T => ArrayT(2 4)
CLit = map [ T ] T => MapT(3 5)
CLit = struct { Fields } => StructT(3)
NT = <- chan NT1 => ChanT(3)
NT1 = * NT => Pointer(2)
NT1 = ( T ) => Paren(2)
NLit = [ ] NT => SliceT(3)
NLit = [ Len ] NT => ArrayT(2 4)
NLit = map [ T ] NT => MapT(3 5)
NLit = struct { Fields } => StructT(3)
NLit = chan NT1 => ChanT(2)
NLit = chan <- NT => ChanT(3)
NLit = interface { Elems } => InterT(3)
Len = name . name => Selector(1 3)
Field = Names T => Field([1] 2)
Field = TName => Field(- 1)
Field = * TName => Field(- Pointer(2))
Elem = name Sig => Method(1 2)
Elem = Union => Union(1)
Block = { Stmts } => Block(2)
Stmt = type LocalSpec => TypeDecl(2)
LocalSpec = name T => TypeSpec(1 - 2)
Stmt = name : Stmt => Label(1 ?3)
Stmt = go Expr => Go(2)
Stmt = defer Expr => Defer(2)
Stmt = return => Return(-)
Stmt = return Exprs => Return([2])
Stmt = break => Break(-)
Stmt = break name => Break(2)
Stmt = continue => Continue(-)
Stmt = continue name => Continue(2)
Stmt = goto name => Goto(2)
Stmt = fallthrough => Fall()
Stmt = select { Comms } => Select(3)
Simple = Expr => ExprS(1)
Simple = Expr <- Expr => Send(1 3)
Simple = Expr ++ => IncDec(1)
Simple = Expr -- => IncDec(1)
Simple = Exprs = Exprs => Assign([1] [3])
Simple = Expr OpAssign Expr => Assign([1] [3])
Simple = Names := Exprs => Define([1] [3])
HSimple = HExpr => ExprS(1)
HSimple = HExpr <- HExpr => Send(1 3)
HSimple = HExpr ++ => IncDec(1)
HSimple = HExpr -- => IncDec(1)
HSimple = HExprs = HExprs => Assign([1] [3])
HSimple = HExpr OpAssign HExpr => Assign([1] [3])
HSimple = Names := HExprs => Define([1] [3])
If = if HExpr Block Else => If(- 2 3 ?4)
If = if HSimple ; HExpr Block Else => If(2 4 5 ?6)
Switch = switch { Cases } => Switch(- - [3])
Switch = switch HExpr { Cases } => Switch(- 2 [4])
Switch = switch Guard { Cases } => TypeSwitch(- 2 [4])
Switch = switch HSimple ; { Cases } => Switch(2 - [5])
Switch = switch HSimple ; HExpr { Cases } => Switch(2 4 [6])
Switch = switch HSimple ; Guard { Cases } => TypeSwitch(2 4 [6])
Guard = HPrim . ( type ) => Guard(- 1)
Guard = name := HPrim . ( type ) => Guard(1 3)
Case = case CaseItems : Stmts => Case([2] [4])
Case = default : Stmts => Case(- [3])
Comm = case Simple : Stmts => Comm(2 [4])
Comm = default : Stmts => Comm(- [3])
For = for Block => For(- - - 2)
For = for HExpr Block => For(- 2 - 3)
For = for HInit ; HCond ; HInit Block => For(?2 ?4 ?6 7)
For = for range HExpr Block => Range(- 3 4)
For = for HExprs = range HExpr Block => Range([2] 5 6)
For = for Names := range HExpr Block => Range([2] 5 6)
Un = UnOp Un => Unary(2)
HUn = UnOp HUn => Unary(2)
Prim = TName Body => CompLit(1 2)
Operand = ( Item ) => Paren(2)
Operand = func Sig Block => FuncLit(2 3)
Operand = CLit Body => CompLit(1 2)
Operand = [ ... ] T Body => CompLit(ArrayT(- 4) 5)
Operand = NLit Args => Call(1 2)
Suffix = . name => Selector(^ 2)
Suffix = . ( T ) => Assert(^ 3)
Suffix = [ Items ] => Index(^ [2])
Suffix = [ Slice ] => SliceX(^ 2)
Suffix = Args => Call(^ 1)
Slice = : => - - -
Slice = Expr : => 1 - -
Slice = : Expr => - 2 -
Slice = Expr : Expr => 1 3 -
Slice = : Expr : Expr => - 2 4
Slice = Expr : Expr : Expr => 1 3 5
Args = ( ) => []
Args = ( Items ) => [2]
Args = ( DotItems ) => [2]
Body = { } => Elems()
Body = { ElemList } => Elems(2)
Body = { ElemList , } => Elems(2)
El = Val : Val => KeyValue(1 3)
`

// kindNames is the names of the kinds of nodes.
var kindNames = strings.Fields("Empty File Name Lit List Bad Import ImportDecl ConstDecl ConstSpec VarDecl VarSpec TypeDecl TypeSpec TParam Union Term Func Recv Sig Params Param Pointer SliceT ArrayT MapT ChanT FuncT StructT Field InterT Method Block Label ExprS Send IncDec Assign Define Go Defer Return Break Continue Goto Fall If Switch TypeSwitch Guard Case Select Comm For Range Paren FuncLit CompLit KeyValue Elems Selector Assert Index SliceX Call Unary Binary")

// kindName returns the name of a kind of nodes.
func kindName(kind int) string { return kindNames[kind] }

// kindOf returns the kind of nodes that has a name.
func kindOf(name string) int { return slices.Index(kindNames, name) }

// derivation is a production with what its symbols derive, or a token.
type derivation struct {
	line     int // -1: a token
	from, to int
	of       []*derivation
}

// branch is a node of the tree that the chapter makes of a derivation.
type branch struct {
	kind, from, to int
	kids           []*branch
}

// deriver makes derivations, and of them tokens and trees.
type deriver struct {
	g       *grammar
	shape   map[string]string
	heights []int // of the lowest derivation from each nonterminal
	used    []int // how often each production was used
	random  *rand.Rand
	kinds   []int
	target  int   // a production to be used
	room    int   // how many levels there can be below it
	ways    []int // how far it is from each nonterminal to it
}

func newDeriver(g *grammar, seed int64) *deriver {
	d := &deriver{g: g, shape: map[string]string{}, used: make([]int, len(g.lines)), random: rand.New(rand.NewSource(seed))}
	for _, line := range strings.Split(strings.TrimSpace(shapes), "\n") {
		text, shape, _ := strings.Cut(line, " => ")
		d.shape[text] = shape
	}
	d.heights = slices.Repeat([]int{far}, len(g.names))
	for changed := true; changed; {
		changed = false
		for i, p := range g.lines {
			if h := d.height(i); h < d.heights[-p.left] {
				d.heights[-p.left] = h
				changed = true
			}
		}
	}
	return d
}

// height returns the height of the lowest derivation that begins with a production.
func (d *deriver) height(line int) int {
	h := 0
	for _, s := range d.g.lines[line].right {
		if s < 0 {
			h = max(h, d.heights[-s])
		}
	}
	return h + 1
}

// far is more than the height of any derivation.
const far = 1 << 20

// fileWith derives a file in whose derivation a production is used; there is room for more below it alone.
func (d *deriver) fileWith(line, room int) ([]int, *branch) {
	d.target, d.room = line, room
	d.ways = slices.Repeat([]int{far}, len(d.g.names))
	for changed := true; changed; {
		changed = false
		for i, p := range d.g.lines {
			if way, _ := d.way(i); way < d.ways[-p.left] {
				d.ways[-p.left] = way
				changed = true
			}
		}
	}
	d.kinds = nil
	x := d.lead(1)
	return d.kinds, d.tree(x)[0]
}

// way returns how far it is from a production to the target, and the place of the symbol that leads there.
func (d *deriver) way(line int) (int, int) {
	if line == d.target {
		return 0, -1
	}
	way, at := far, -1
	for i, s := range d.g.lines[line].right {
		if s < 0 && d.ways[-s]+1 < way {
			way, at = d.ways[-s]+1, i
		}
	}
	return way, at
}

// lead derives something with the target from nonterminal n.
func (d *deriver) lead(n int) *derivation {
	best, least, place := -1, far, -1
	for _, line := range d.g.of[n] {
		if way, at := d.way(line); way < least {
			best, least, place = line, way, at
		}
	}
	return d.apply(best, func(i int, s symbol) *derivation {
		if i == place {
			return d.lead(int(-s))
		}
		if best == d.target {
			return d.derive(s, d.room)
		}
		return d.derive(s, 0)
	})
}

// choose returns a production of a nonterminal, one that was seldom used if there is room for it.
func (d *deriver) choose(s symbol, room int) int {
	best, least := -1, 0
	for _, line := range d.g.of[-s] {
		cost := d.used[line]*2 + d.random.Intn(8)
		if h := d.height(line); h > room {
			cost = far + h
		}
		if best < 0 || cost < least {
			best, least = line, cost
		}
	}
	return best
}

// apply derives something with a production, from each symbol as of tells.
func (d *deriver) apply(line int, of func(i int, s symbol) *derivation) *derivation {
	d.used[line]++
	x := &derivation{line: line, from: len(d.kinds)}
	for i, s := range d.g.lines[line].right {
		x.of = append(x.of, of(i, s))
	}
	x.to = len(d.kinds)
	return x
}

// derive derives something from a symbol.
func (d *deriver) derive(s symbol, room int) *derivation {
	if s > 0 {
		d.kinds = append(d.kinds, int(s))
		return &derivation{line: -1, from: len(d.kinds) - 1, to: len(d.kinds)}
	}
	if len(d.kinds) > 150 {
		room = 0
	}
	return d.apply(d.choose(s, room), func(_ int, next symbol) *derivation { return d.derive(next, room-1) })
}

// tree returns the nodes that the chapter makes of a derivation.
func (d *deriver) tree(x *derivation) []*branch {
	if x.line < 0 {
		switch kind := d.kinds[x.from]; {
		case kind == api.TkName:
			return []*branch{{api.NdName, x.from, x.to, nil}}
		case kind <= api.TkString:
			return []*branch{{api.NdLit, x.from, x.to, nil}}
		}
		return nil
	}
	p := d.g.lines[x.line]
	switch p.text {
	case "Expr = Un Bin Expr", "HExpr = HUn Bin HExpr":
		return []*branch{d.binary(x)}
	case "Prim = Prim Suffix", "HPrim = HPrim Suffix":
		operand, suffix := d.tree(x.of[0])[0], d.tree(x.of[1])[0]
		suffix.from, suffix.kids[0] = operand.from, operand
		return []*branch{suffix}
	case "Item = T":
		return []*branch{d.asExpression(d.tree(x.of[0])[0])}
	}
	var l []*branch
	shape, ok := d.shape[p.text]
	if !ok {
		for _, of := range x.of {
			l = append(l, d.tree(of)...)
		}
		return l
	}
	l, _ = d.fill(shape, x)
	if strings.Contains(shape, "(") {
		l[0].from, l[0].to = x.from, x.to
	}
	if p.text == "Sig = Params T" && l[0].kids[1].kind == api.NdParen {
		// The result is parameters too, and that production stands first.
		t := l[0].kids[1]
		l[0].kids[1] = &branch{api.NdParams, t.from, t.to, []*branch{{api.NdParam, t.from + 1, t.to - 1, []*branch{{}, t.kids[0]}}}}
	}
	return l
}

// fill returns the nodes of a shape, and what is left of it behind a closing parenthesis or bracket.
func (d *deriver) fill(shape string, x *derivation) ([]*branch, string) {
	var l []*branch
	place := func(n int) []*branch { return d.tree(x.of[n-1]) }
	for shape != "" {
		c := shape[0]
		shape = shape[1:]
		switch {
		case c == ')' || c == ']':
			return l, shape
		case c == '-':
			l = append(l, &branch{})
		case c == '^':
			l = append(l, nil)
		case c == '?':
			made := place(int(shape[0] - '0'))
			shape = shape[1:]
			if len(made) == 0 {
				made = []*branch{{}}
			}
			l = append(l, made...)
		case c == '[':
			list := &branch{kind: api.NdList}
			list.kids, shape = d.fill(shape, x)
			l = append(l, list)
		case c >= '1' && c <= '9':
			l = append(l, place(int(c-'0'))...)
		case c != ' ':
			name, rest, _ := strings.Cut(string(c)+shape, "(")
			n := &branch{kind: kindOf(name), from: x.from}
			n.kids, shape = d.fill(rest, x)
			if len(n.kids) > 0 {
				n.to = n.kids[len(n.kids)-1].to
			}
			if name == "Union" {
				n.from = n.kids[0].from
			}
			l = append(l, n)
		}
	}
	return l, ""
}

// binary returns the tree of an expression with binary operators: the last one of the least precedence is the root.
func (d *deriver) binary(x *derivation) *branch {
	var operands []*branch
	var operators []int
	for len(x.of) == 3 {
		operands = append(operands, d.tree(x.of[0])[0])
		operators = append(operators, d.kinds[x.of[1].from])
		x = x.of[2]
	}
	operands = append(operands, d.tree(x)[0])
	var build func(from, to int) *branch
	build = func(from, to int) *branch {
		if from == to {
			return operands[from]
		}
		best := from
		for i := from; i < to; i++ {
			if token.Prec(operators[i]) <= token.Prec(operators[best]) {
				best = i
			}
		}
		a, b := build(from, best), build(best+1, to)
		return &branch{api.NdBinary, a.from, b.to, []*branch{a, b}}
	}
	return build(0, len(operators))
}

// asExpression returns a type, where an expression may stand too, as the expression that it can be written as.
func (d *deriver) asExpression(n *branch) *branch {
	switch n.kind {
	case api.NdPointer:
		return &branch{api.NdUnary, n.from, n.to, []*branch{d.asExpression(n.kids[0])}}
	case api.NdParen:
		return &branch{api.NdParen, n.from, n.to, []*branch{d.asExpression(n.kids[0])}}
	case api.NdChanT:
		if d.kinds[n.from] == api.TkArrow {
			return &branch{api.NdUnary, n.from, n.to, []*branch{{api.NdChanT, n.from + 1, n.to, n.kids}}}
		}
	case api.NdIndex:
		list := &branch{kind: api.NdList}
		for _, k := range n.kids[1].kids {
			list.kids = append(list.kids, d.asExpression(k))
		}
		return &branch{api.NdIndex, n.from, n.to, []*branch{n.kids[0], list}}
	}
	return n
}

// differs tells where a tree is another one than that of a branch; the tokens of List and Empty are not compared.
func differs(t api.Tree, n int, want *branch) string {
	got := t.Nodes[n]
	where := " at node " + strconv.Itoa(n) + ", " + kindName(got.Kind) + " " + strconv.Itoa(got.From) + " to " + strconv.Itoa(got.To)
	switch {
	case got.Kind != want.kind:
		return "want " + kindName(want.kind) + " " + strconv.Itoa(want.from) + " to " + strconv.Itoa(want.to) + where
	case got.Kind == api.NdEmpty && got.From != got.To:
		return "not empty" + where
	case got.Kind != api.NdEmpty && got.Kind != api.NdList && (got.From != want.from || got.To != want.to):
		return "want from " + strconv.Itoa(want.from) + " to " + strconv.Itoa(want.to) + where
	case len(got.Kids) != len(want.kids):
		return "want " + strconv.Itoa(len(want.kids)) + " children" + where
	}
	for i, k := range got.Kids {
		if s := differs(t, k, want.kids[i]); s != "" {
			return s
		}
	}
	return ""
}

// P14.1, P14.3: files that derive in G, small ones and greater ones with each production: the tree is the one that the chapter makes of the derivation.
func TestDerivations(t *testing.T) {
	d := newDeriver(readGrammar(printed), 1)
	for line, p := range d.g.lines {
		before := d.used[line]
		for room := range 30 {
			kinds, want := d.fileWith(line, room)
			expectTree(t, kinds, want)
		}
		if d.used[line] < before+30 {
			t.Error(p.text)
		}
	}
}

// expectTree expects no error, and that tree.
func expectTree(t *testing.T, kinds []int, want *branch) {
	t.Helper()
	x, d := expectFirst(t, kinds, -1)
	if len(d) > 0 {
		return
	}
	if s := differs(x, len(x.Nodes)-1, want); s != "" {
		t.Errorf("%s: %s", wordsOf(kinds), s)
	}
}
