package tree

import (
	"slices"
	"strconv"
	"strings"
	"testing"

	"cavil/api"
)

// chain is n nodes below each other, each with one own token ahead of its child, and one behind it.
func chain(n int) api.Tree {
	var x api.Tree
	for i := range n {
		x.Nodes = append(x.Nodes, node(32, n-1-i, n+1+i))
		if i > 0 {
			x.Nodes[i].Kids = []int{i - 1}
		}
	}
	return x
}

// P13.2, P13.4, P13.5: a chain of many nodes.
func TestChain(t *testing.T) {
	const n = 1 << 17
	x := chain(n)
	if e := Check(x, 2*n); e != nil {
		t.Fatal(e)
	}
	if d, e := Depth(x); d != n || e != nil {
		t.Errorf("Depth = %d, %v", d, e)
	}
	parents, e := Parents(x)
	owners, e2 := Owners(x)
	if len(parents) != n || len(owners) != 2*n || e != nil || e2 != nil {
		t.Fatalf("%d parents, %d owners, %v, %v", len(parents), len(owners), e, e2)
	}
	for i := range n {
		parent := i + 1
		if parent == n {
			parent = -1
		}
		if parents[i] != parent || owners[n-1-i] != i || owners[n+i] != i {
			t.Fatalf("node %d: parent %d, owns %d, %d", i, parents[i], owners[n-1-i], owners[n+i])
		}
	}
	for _, i := range []int{0, 1, n / 2, n - 2, n - 1} {
		if own, e := Own(x, i); !slices.Equal(own, []int{n - 1 - i, n + i}) || e != nil {
			t.Errorf("Own of %d = %v, %v", i, own, e)
		}
		if at, e := At(x, n+i); at != i || e != nil {
			t.Errorf("At of %d = %d, %v", n+i, at, e)
		}
	}
	var ahead, behind strings.Builder
	for i := range n {
		ahead.WriteString(" (32 " + strconv.Itoa(i))
		behind.WriteString(" " + strconv.Itoa(n+i) + ")")
	}
	if s, e := Text(x); s != ahead.String()[1:]+behind.String() || e != nil {
		t.Errorf("Text: %d bytes, %v", len(s), e)
	}
	if Count(x, 32) != n || Count(x, 31) != 0 {
		t.Error("Count")
	}
	// What is wrong at the root, and then far from it.
	x.Nodes[n-1].Kids = nil
	expectSame(t, Check(x, 2*n), broken(n-2))
	x.Nodes[0].To += 2
	expectSame(t, Check(x, 2*n), broken(1))
}

// P13.2, P13.4, P13.5: a root of many children, the even ones of which have a token, with an own token behind each of these.
func TestWide(t *testing.T) {
	const n = 1 << 16
	var x api.Tree
	var kids, want []int
	for i := range n {
		kids = append(kids, i)
		if i%2 == 0 {
			x.Nodes = append(x.Nodes, node(i%67, i, i+1))
			want = append(want, i, n)
		} else {
			x.Nodes = append(x.Nodes, node(i%67, i, i))
		}
	}
	x.Nodes = append(x.Nodes, node(1, 0, n, kids...))
	if e := Check(x, n); e != nil {
		t.Fatal(e)
	}
	if owners, e := Owners(x); !slices.Equal(owners, want) || e != nil {
		t.Errorf("Owners: %d, %v", len(owners), e)
	}
	own, e := Own(x, n)
	if len(own) != n/2 || own[0] != 1 || own[n/2-1] != n-1 || e != nil {
		t.Errorf("Own: %d, %v", len(own), e)
	}
	s, e := Text(x)
	if !strings.HasPrefix(s, "(1 (0 0) (1) 1 (2 2) (3) 3 (4 4)") || !strings.HasSuffix(s, " ("+strconv.Itoa((n-1)%67)+") "+strconv.Itoa(n-1)+")") || e != nil {
		t.Errorf("Text: %s .. %s, %v", s[:40], s[len(s)-40:], e)
	}
	if d, e := Depth(x); d != 2 || e != nil {
		t.Errorf("Depth = %d, %v", d, e)
	}
	x.Nodes[n].Kids[n-1] = n - 3
	expectSame(t, Check(x, n), broken(n))
	x.Nodes[n].Kids = kids[:n-1]
	expectSame(t, Check(x, n), broken(n-1))
}

func expectSame(t *testing.T, got, want error) {
	t.Helper()
	if got != want {
		t.Errorf("%#v, want %#v", got, want)
	}
}

// P13.1, P13.2: the largest numbers of tokens are as good as small ones where an answer has few parts.
func TestMostTokens(t *testing.T) {
	x := of(node(2, 2, most-1), node(3, 1, most-1, 0), node(4, most, most), node(1, 0, most, 1, 2))
	expectCheck(t, x, most, nil)
	expectCheck(t, x, most-1, broken(2))
	expectCheck(t, x, most-2, broken(0))
	expectCheck(t, x, least, broken(0))
	expectDepth(t, x, 3, nil)
	expectParents(t, x, []int{1, 3, 3, -1}, nil)
	expectOwn(t, x, 1, []int{1}, nil)
	expectOwn(t, x, 2, nil, nil)
	expectOwn(t, x, 3, []int{0, most - 1}, nil)
	for tok, want := range map[int]int{0: 3, 1: 1, 2: 0, most / 2: 0, most - 2: 0, most - 1: 3} {
		expectAt(t, x, tok, want, nil)
	}
	for _, tok := range []int{least, -1, most} {
		expectAt(t, x, tok, 0, api.ErrRange)
	}
	for kind := range 6 {
		expectCount(t, x, kind, min(kind, 1)-kind/5)
	}

	last := strconv.Itoa(most - 1)
	x = of(node(2, most, most), node(1, most-1, most, 0))
	expectOwn(t, x, 1, []int{most - 1}, nil)
	expectAt(t, x, most-1, 1, nil)
	expectAt(t, x, most-2, 0, api.ErrRange)
	expectText(t, x, "(1 "+last+" (2))", nil)
	x = of(node(2, most-1, most), node(1, most-2, most, 0))
	expectText(t, x, "(1 "+strconv.Itoa(most-2)+" (2 "+last+"))", nil)
	expectText(t, of(node(1, most, most)), "(1)", nil)
	expectAt(t, of(node(1, most, most)), most, 0, api.ErrRange)
}

// Rule 4: no call changes its tree, and no answer shares memory with it, with another answer, or with what is behind the lists of the tree.
func TestMemory(t *testing.T) {
	for _, s := range shapes() {
		x := s.tree
		whole := make([][]int, len(x.Nodes))
		for i := range x.Nodes {
			kids := x.Nodes[i].Kids
			whole[i] = append(slices.Clone(kids), 90, 91, 92)
			x.Nodes[i].Kids = whole[i][:len(kids)]
		}
		x.Nodes = append(x.Nodes, node(90, 91, 92))[:len(x.Nodes)]
		before := show(x)
		Check(x, reach(x))
		Count(x, 1)
		parents, _ := Parents(x)
		owners, _ := Owners(x)
		own, _ := Own(x, len(x.Nodes)-1)
		expectWords(t, x)
		clear(parents)
		clear(owners)
		clear(own)
		expectWords(t, x)
		if behind := show(of(x.Nodes[:len(x.Nodes)+1][len(x.Nodes)])); show(x) != before || behind != show(of(node(90, 91, 92))) {
			t.Errorf("%s changed to %s, behind it %s", before, show(x), behind)
		}
		for i, n := range x.Nodes {
			if !slices.Equal(whole[i][len(n.Kids):], []int{90, 91, 92}) {
				t.Errorf("%s: behind Kids of %d: %v", before, i, whole[i])
			}
		}
		parents, _ = Parents(x)
		owners, _ = Owners(x)
		for i := range x.Nodes {
			clear(x.Nodes[i].Kids)
			x.Nodes[i] = api.Node{}
		}
		if !slices.Equal(parents, s.parents) || !slices.Equal(owners, s.owners) {
			t.Errorf("answers for %s changed to %v, %v with the tree", before, parents, owners)
		}
	}
}
