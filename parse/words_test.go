package parse

import (
	"slices"
	"strconv"
	"strings"
	"testing"

	"cavil/api"
	"cavil/token"
	"cavil/tree"
)

// kindsOf returns the kinds that words tell: a word that is the text of a kind is that one, so that int is a literal; so is what looks like one. bad is TkBad, and every other word is a name.
func kindsOf(words string) []int {
	known := map[string]int{"bad": api.TkBad}
	for _, kind := range allKinds() {
		known[token.Spell(kind)] = kind
	}
	var l []int
	for _, word := range strings.Fields(words) {
		kind := known[word]
		switch {
		case kind != 0:
		case word[0] == '"':
			kind = api.TkString
		case word[0] == '\'':
			kind = api.TkChar
		case '0' <= word[0] && word[0] <= '9' && strings.Contains(word, "."):
			kind = api.TkFloat
		case '0' <= word[0] && word[0] <= '9':
			kind = api.TkInt
		default:
			kind = api.TkName
		}
		l = append(l, kind)
	}
	return l
}

// wordsOf tells kinds as words.
func wordsOf(kinds []int) string {
	var l []string
	for _, kind := range kinds {
		switch word := token.Spell(kind); {
		case kind == api.TkBad:
			l = append(l, "bad")
		case word == "":
			l = append(l, strconv.Itoa(kind))
		default:
			l = append(l, word)
		}
	}
	if len(l) > 400 {
		l = append(l[:200], "..", strconv.Itoa(len(l)))
	}
	return strings.Join(l, " ")
}

// badErr is the Err of the bad token at a place: the places have different ones.
func badErr(at int) api.Errno { return api.ErrCut + api.Errno(at%4) }

// tokensOf returns tokens of kinds.
func tokensOf(kinds []int) []api.Token {
	l := make([]api.Token, len(kinds))
	for i, kind := range kinds {
		l[i] = api.Token{Kind: kind, From: i, To: i + 1}
		if kind == api.TkBad {
			l[i].Err = badErr(i)
		}
	}
	return l
}

// forms is what nodes the chapter lists as children of each kind: [..] is a List, * stands for any number.
const forms = `
Empty:
File: Name|Bad [ImportDecl|Bad] [Decl|Bad]
Name:
Lit:
Bad:
Import: Name|Empty Lit
ImportDecl: Import *
ConstDecl: ConstSpec *
ConstSpec: [Name] Type|Empty [Expr]|Empty
VarDecl: VarSpec *
VarSpec: [Name] Type|Empty [Expr]|Empty
TypeDecl: TypeSpec *
TypeSpec: Name [TParam]|Empty Type
TParam: [Name] Union
Union: Term *
Term: Type
Func: Recv|Empty Name [TParam]|Empty Sig Block
Recv: Name|Empty Name [Name]|Empty
Sig: Params Params|Type|Empty
Params: Param *
Param: Name|Empty Type
Pointer: Type
SliceT: Type
ArrayT: Lit|Name|Selector|Empty Type
MapT: Type Type
ChanT: Type
FuncT: Sig
StructT: Field *
Field: [Name]|Empty Type
InterT: Method|Union *
Method: Name Sig
Block: Stmt|Bad *
Label: Name Stmt|Bad|Empty
ExprS: Expr
Send: Expr Expr
IncDec: Expr
Assign: [Expr] [Expr]
Define: [Name] [Expr]
Go: Expr
Defer: Expr
Return: [Expr]|Empty
Break: Name|Empty
Continue: Name|Empty
Goto: Name
Fall:
If: Stmt|Empty Expr Block If|Block|Empty
Switch: Stmt|Empty Expr|Empty [Case]
TypeSwitch: Stmt|Empty Guard [Case]
Guard: Name|Empty Expr
Case: [Expr|Type]|Empty [Stmt|Bad]
Select: Comm *
Comm: Stmt|Empty [Stmt|Bad]
For: Stmt|Empty Expr|Empty Stmt|Empty Block
Range: [Expr]|Empty Expr Block
Paren: Expr|Type
FuncLit: Sig Block
CompLit: Type Elems
KeyValue: Expr|Elems Expr|Elems
Elems: Expr|Elems|KeyValue *
Selector: Expr Name
Assert: Expr Type
Index: Expr [Expr|Type]
SliceX: Expr Expr|Empty Expr|Empty Expr|Empty
Call: Expr|Type [Expr|Type]
Unary: Expr|Type
Binary: Expr Expr
Decl= ConstDecl VarDecl TypeDecl Func
Type= Name Selector Index Paren Pointer SliceT ArrayT MapT ChanT FuncT StructT InterT
Expr= Name Lit Paren FuncLit CompLit Selector Assert Index SliceX Call Unary Binary
Stmt= ConstDecl VarDecl TypeDecl Block Label ExprS Send IncDec Assign Define Go Defer Return Break Continue Goto Fall If Switch TypeSwitch Select For Range
`

// formTable is the forms by the words ahead of them.
var formTable = readForms()

func readForms() map[string][]string {
	table := map[string][]string{}
	for _, line := range strings.Split(strings.TrimSpace(forms), "\n") {
		words := strings.Fields(line)
		table[words[0]] = words[1:]
	}
	return table
}

// mayBe reports whether node n is one of those that a slot of a form allows.
func mayBe(x api.Tree, n int, slot string) bool {
	name := kindName(x.Nodes[n].Kind)
	if name == "List" {
		open := strings.Index(slot, "[")
		if open < 0 {
			return false
		}
		inner := slot[open+1 : strings.Index(slot, "]")]
		return !slices.ContainsFunc(x.Nodes[n].Kids, func(k int) bool { return !mayBe(x, k, inner) })
	}
	if _, rest, ok := strings.Cut(slot, "]"); ok {
		slot = rest
	}
	for _, word := range strings.Split(slot, "|") {
		if word == name || slices.Contains(formTable[word+"="], name) {
			return true
		}
	}
	return false
}

// malformed tells which node of a tree has not the form that the chapter gives it.
func malformed(x api.Tree) string {
	for n, node := range x.Nodes {
		name := kindName(node.Kind)
		size := node.To - node.From
		if name == "Empty" && size != 0 || (name == "Name" || name == "Lit") && size != 1 {
			return name + " at " + strconv.Itoa(n)
		}
		if name == "List" {
			continue
		}
		form := formTable[name+":"]
		if k := len(form); k > 0 && form[k-1] == "*" {
			form = slices.Repeat(form[:1], len(node.Kids))
		}
		if len(form) != len(node.Kids) {
			return name + " at " + strconv.Itoa(n)
		}
		for i, k := range node.Kids {
			if !mayBe(x, k, form[i]) {
				return name + " at " + strconv.Itoa(n) + ", child " + strconv.Itoa(i)
			}
		}
	}
	return ""
}

// unsound tells what of a result is against P14.2 and P14.3, whatever the tokens are; first is where the first error has to be, -1 if there is to be none.
func unsound(l []api.Token, x api.Tree, d []api.Diag, first int) string {
	if e := tree.Check(x, len(l)); e != nil {
		return e.Error()
	}
	root := x.Nodes[len(x.Nodes)-1]
	if root.Kind != api.NdFile || root.From != 0 || root.To != len(l) {
		return "root"
	}
	if depth, e := tree.Depth(x); e != nil || depth > api.MaxDeep {
		return "depth " + strconv.Itoa(depth)
	}
	if (tree.Count(x, api.NdBad) > 0) != (len(d) > 0) {
		return "Bad"
	}
	at := -1
	for i, e := range d {
		if i == 0 && e.Tok != first {
			return "first error at " + strconv.Itoa(e.Tok) + ", want " + strconv.Itoa(first)
		}
		if e.Tok <= at || e.Tok > len(l) {
			return "order of errors"
		}
		at = e.Tok
		want := api.ErrSyntax
		if at < len(l) && l[at].Kind == api.TkBad {
			want = l[at].Err
		}
		if e.Err != want {
			return "error " + e.Err.Error()
		}
	}
	if len(d) == 0 && first >= 0 {
		return "no error, want one at " + strconv.Itoa(first)
	}
	return malformed(x)
}

// expectFirst parses kinds, expects the first error at a token, and returns the result.
func expectFirst(t *testing.T, kinds []int, first int) (api.Tree, []api.Diag) {
	t.Helper()
	l := tokensOf(kinds)
	x, d := File(l)
	if s := unsound(l, x, d, first); s != "" {
		t.Errorf("%s: %s", wordsOf(kinds), s)
	}
	return x, d
}

// show tells a tree: a Name as its word, Empty as -, a List as its elements in brackets, and a Bad as its words.
func show(x api.Tree, words []string) string {
	var text func(n int) string
	text = func(n int) string {
		node := x.Nodes[n]
		var kids []string
		for _, k := range node.Kids {
			kids = append(kids, text(k))
		}
		switch node.Kind {
		case api.NdEmpty:
			return "-"
		case api.NdName, api.NdLit:
			return words[node.From]
		case api.NdBad:
			return "Bad<" + strings.Join(words[node.From:node.To], " ") + ">"
		case api.NdList:
			return "[" + strings.Join(kids, " ") + "]"
		}
		return kindName(node.Kind) + "(" + strings.Join(kids, " ") + ")"
	}
	return text(len(x.Nodes) - 1)
}
