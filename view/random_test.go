package view

import (
	"bytes"
	"math/rand"
	"slices"
	"strconv"
	"strings"
	"testing"

	"cavil/api"
	"cavil/parse"
	"cavil/scan"
)

// randomTree is a tree over tokens, with nodes of all kinds, of which some have no tokens; the indices of children are in any order.
func randomTree(random *rand.Rand, tokens, size int) api.Tree {
	var x api.Tree
	var grow func(from, to, size int) int
	grow = func(from, to, size int) int {
		var ends []int
		for range 2 * random.Intn(min(size, 5)+1) {
			ends = append(ends, from+random.Intn(to-from+1))
		}
		slices.Sort(ends)
		kids := make([]int, len(ends)/2)
		for _, i := range random.Perm(len(kids)) {
			kids[i] = grow(ends[2*i], ends[2*i+1], size/2)
		}
		x.Nodes = append(x.Nodes, node(randomKind(random), from, to, kids...))
		return len(x.Nodes) - 1
	}
	from := random.Intn(tokens + 1)
	if random.Intn(3) > 0 {
		from = 0
	}
	grow(from, tokens-random.Intn(tokens-from+1)/3, size)
	return x
}

// randomKind is a kind of nodes; those that a promise names come more often.
func randomKind(random *rand.Rand) int {
	kinds := []int{api.NdName, api.NdLit, api.NdChanT, api.NdEmpty}
	if i := random.Intn(3 * len(kinds)); i < len(kinds) {
		return kinds[i]
	}
	return random.Intn(api.NdBinary + 1)
}

// randomTokens are tokens of a text, in order, or anywhere.
func randomTokens(random *rand.Rand, count, size int, ordered bool) []api.Token {
	kinds := append(punctuation(), api.TkArrow, api.TkArrow, api.TkName, api.TkInt, api.TkAdd, api.TkBad, 0, -1, 88)
	at := make([]int, 2*count)
	for i := range at {
		if at[i] = random.Intn(size + 1); !ordered && random.Intn(4) == 0 {
			at[i] += []int{least, -1, 1, size, most - 2*size}[random.Intn(5)]
		}
	}
	if ordered {
		slices.Sort(at)
	}
	l := make([]api.Token, count)
	for i := range l {
		l[i] = api.Token{Kind: kinds[random.Intn(len(kinds))], From: at[2*i], To: at[2*i+1]}
	}
	return l
}

func randomText(random *rand.Rand, size int) string {
	b := make([]byte, size)
	for i := range b {
		b[i] = byte(random.Intn(256))
	}
	return string(b)
}

// P15.2 to P15.4: random trees over random tokens.
func TestRandomTrees(t *testing.T) {
	random := rand.New(rand.NewSource(1))
	nodes := 0
	for i := range 3000 {
		tokens, ordered := random.Intn(12), i%2 == 0
		f := made(t, randomText(random, 10), randomTokens(random, tokens, 10, ordered), randomTree(random, tokens, 1+i%20))
		nodes += len(f.Tree.Nodes)
		expectPromises(t, f)
		expectAgreement(t, f)
		if ordered {
			expectNested(t, f)
		}
	}
	if nodes < 20000 {
		t.Error(nodes)
	}
}

// words are those of random files.
const words = "package import const var type func struct interface map chan <- return if else for range switch case default select go defer break goto name a b c é 1 2.5 'x' \"s\" `r` ( ) ( ) [ ] { } { } , , ; ; . : := = == + - * / << ! & | ~ ... ++ += \n \n // /* */ /**/ @ 08 \xff"

// randomFile is a file whose beginning may be good.
func randomFile(random *rand.Rand, count int) string {
	all := strings.Split(words, " ")
	beginnings := []string{"", "package p\n", "package p; var v = a ", "package p; func f() {\n", "package p; type t struct { "}
	text := beginnings[random.Intn(len(beginnings))]
	for range count {
		text += all[random.Intn(len(all))] + " "[random.Intn(2):]
	}
	return text
}

// P15.2 to P15.4: random files, most of which do not derive.
func TestRandomFiles(t *testing.T) {
	random := rand.New(rand.NewSource(2))
	for i := range 2000 {
		f := parsed(t, randomFile(random, i%40))
		expectPromises(t, f)
		expectAgreement(t, f)
		expectNested(t, f)
	}
	for range 300 {
		f := parsed(t, randomText(random, random.Intn(40)))
		expectPromises(t, f)
		expectNested(t, f)
	}
}

// P15.4: the forms of all kinds, among them those in which no tokens stand at the end of a node.
func TestNested(t *testing.T) {
	for _, c := range []struct {
		ahead, behind string
		l             []form
	}{
		{"", "", fileForms()},
		{"package p\n", "\n", declForms()},
		{"package p\nvar v ", "\n", typeForms()},
		{"package p\nfunc f() {\n\t", "\n}\n", stmtForms()},
		{"package p\nvar v = ", "\n", exprForms()},
	} {
		for _, x := range c.l {
			expectNested(t, parsed(t, c.ahead+x.in+c.behind))
		}
	}
}

// expectNested expects the span of each node of a file whose tokens are in order within that of its parent. A node without tokens at the end of its parent may be an exception: by P15.4 it stands where the next token begins, which can be behind a gap.
func expectNested(t *testing.T, f *File) {
	t.Helper()
	for n, x := range f.Tree.Nodes {
		outer := f.Span(n)
		if outer.From > outer.To {
			t.Fatalf("Span(%d) = %v: %s", n, outer, show(f))
		}
		for _, k := range x.Kids {
			inner := f.Span(k)
			within := outer.From <= inner.From && inner.From <= inner.To && inner.To <= outer.To
			atEnd := x.From < x.To && f.Tree.Nodes[k].From == x.To && x.To < len(f.Toks)
			if !within && !(atEnd && inner.From == f.Toks[x.To].From && inner.To == inner.From) {
				t.Fatalf("Span(%d) = %v, in that of %d, %v: %s", k, inner, n, outer, show(f))
			}
		}
	}
}

// P15.2 to P15.4: files that New did not make, of trees that are not valid: every call ends, and the tokens that it tells are there.
func TestNotMade(t *testing.T) {
	random := rand.New(rand.NewSource(3))
	numbers := []int{least, -1, 0, 0, 1, 1, 2, 2, 3, 3, 4, 5, most}
	number := func() int { return numbers[random.Intn(len(numbers))] }
	for range 6000 {
		f := &File{Text: []byte("abcd"), Toks: randomTokens(random, random.Intn(4), 4, false)}
		for range random.Intn(5) {
			x := node(randomKind(random), number(), number())
			if random.Intn(10) == 0 {
				x.Kind = number()
			}
			for range random.Intn(4) {
				x.Kids = append(x.Kids, number())
			}
			f.Tree.Nodes = append(f.Tree.Nodes, x)
		}
		for n := range f.Tree.Nodes {
			expectSane(t, f, n)
		}
		for _, n := range outside(len(f.Tree.Nodes)) {
			expectNothing(t, f, n)
		}
	}
}

// expectSane expects of all calls what does not depend on whether the tree is valid.
func expectSane(t *testing.T, f *File, n int) {
	t.Helper()
	x := f.Tree.Nodes[n]
	expectNode(t, f, n, x)
	for i, k := range x.Kids {
		expectKid(t, f, n, i, k)
	}
	expectKid(t, f, n, -1, -1)
	expectKid(t, f, n, len(x.Kids), -1)
	expectEmpty(t, f, n, x.Kind == api.NdEmpty)
	own, op := f.Own(n), 0
	var kinds []int
	for i, tok := range own {
		if tok < max(x.From, 0) || tok >= min(x.To, len(f.Toks)) || i > 0 && tok <= own[i-1] {
			t.Fatalf("Own(%d) = %v: %s", n, own, show(f))
		}
		kinds = append(kinds, f.Toks[tok].Kind)
	}
	for _, kind := range slices.Backward(kinds) {
		if !slices.Contains(punctuation(), kind) {
			op = kind
		}
	}
	expectHas(t, f, n, kinds...)
	expectOp(t, f, n, op)
	if c := f.Chan(n); c < 0 || c > 2 || c > 0 && x.Kind != api.NdChanT {
		t.Fatalf("Chan(%d) = %d: %s", n, c, show(f))
	}
	if l := f.Words(n); len(l) != len(x.Kids) {
		t.Fatalf("Words(%d) = %q: %s", n, l, show(f))
	}
	if w := f.Word(n); w != "" && (!bytes.Contains(f.Text, []byte(w)) || x.Kind != api.NdName && x.Kind != api.NdLit) {
		t.Fatalf("Word(%d) = %q: %s", n, w, show(f))
	}
	f.Span(n)
	if t.Failed() {
		t.Fatal(show(f))
	}
}

// P15.2 to P15.4: no call changes the file, or what was passed to New; changes of results change nothing.
func TestUnchanged(t *testing.T) {
	text := []byte("package p\nvar a, b chan<- int = c.d[1:], (e + f), <-g\nfunc h() { return }\nvar = 1\n")
	toks, _ := scan.Tokens(text)
	x, _ := parse.File(toks)
	text2, toks2, x2 := slices.Clone(text), slices.Clone(toks), api.Tree{Nodes: slices.Clone(x.Nodes)}
	for i := range x2.Nodes {
		x2.Nodes[i].Kids = slices.Clone(x2.Nodes[i].Kids)
	}
	f, e := New(text, toks, x)
	if e != nil {
		t.Fatal(e)
	}
	expectSame := func() {
		t.Helper()
		for _, y := range []*File{{text, toks, x}, f} {
			if !bytes.Equal(y.Text, text2) || !slices.Equal(y.Toks, toks2) || !equalTrees(y.Tree, x2) {
				t.Fatalf("changed: %s", show(y))
			}
		}
	}
	expectSame()
	for range 2 {
		for n := -1; n <= len(x.Nodes); n++ {
			words, own := f.Words(n), f.Own(n)
			wantWords, wantOwn := slices.Clone(words), slices.Clone(own)
			for i := range words {
				words[i] = "other"
			}
			for i := range own {
				own[i] = -7
			}
			words, own = append(words, "more"), append(own, -8)
			expectWords(t, f, n, wantWords...)
			expectOwn(t, f, n, wantOwn...)
			if len(words) == 0 || len(own) == 0 {
				t.Fatal("nothing appended")
			}
		}
		expectPromises(t, f)
		expectAgreement(t, f)
		expectSame()
	}
}

// P15.2: every node of a long file, in which the root has many children, and one with few nodes and many own tokens.
func TestLarge(t *testing.T) {
	var b strings.Builder
	b.WriteString("package p\n")
	const count = 20000
	for i := range count {
		b.WriteString("var v" + strconv.Itoa(i) + " = a + (b)\n")
	}
	f := parsed(t, b.String())
	specs := nodesOf(f, api.NdVarSpec)
	for i, n := range specs {
		expectWords(t, f, f.Kid(n, 0), "v"+strconv.Itoa(i))
		expectOp(t, f, n, api.TkAssign)
	}
	for n := range f.Tree.Nodes {
		if f.Has(n, api.TkAdd) != (f.Node(n).Kind == api.NdBinary) || f.Has(n, api.TkBad) {
			t.Fatalf("Has(%d)", n)
		}
	}
	root := len(f.Tree.Nodes) - 1
	expectSpan(t, f, root, 0, b.Len()-1)
	expectOp(t, f, root, api.TkPackage)
	if len(specs) != count || len(f.Words(f.Kid(root, 2))) != count {
		t.Error(len(specs))
	}
	toks := make([]api.Token, api.MaxTokens)
	f = made(t, "", toks, of(node(api.NdBad, 1, 2), node(api.NdFile, 0, len(toks), 0)))
	if own := f.Own(1); len(own) != len(toks)-1 || own[0] != 0 || own[1] != 2 {
		t.Error(len(own))
	}
	if f.Has(1, 1) || !f.Has(1, 0) || f.Op(1) != 0 {
		t.Error("kinds")
	}
}
