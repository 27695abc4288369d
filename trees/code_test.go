package trees_test

import (
	"fmt"
	"math"
	"slices"
	"strings"
	"testing"

	"arbor/api"
	"arbor/trees"
)

// codes goes through all codes of trees of n nodes, from 2 on.
func codes(n int, see func(code []int)) {
	code := make([]int, n-2)
	var fill func(at int)
	fill = func(at int) {
		if at == len(code) {
			see(slices.Clone(code))
			return
		}
		for v := range n {
			code[at] = v
			fill(at + 1)
		}
	}
	fill(0)
}

// mixedCode is a code of a tree of n nodes, of which the least kinds ones stand in it; the same one each time.
func mixedCode(n, kinds, seed int) []int {
	x := uint64(seed)*2654435761 + uint64(n)
	code := make([]int, n-2)
	for i := range code {
		x = x*6364136223846793005 + 1442695040888963407
		code[i] = int(x>>33) % kinds
	}
	return code
}

// greatCodes are codes of trees at the limits, or near them.
func greatCodes() [][]int {
	var out [][]int
	for seed := range 12 {
		n := api.MaxNodes - seed%3
		for _, kinds := range []int{1, 2, 5, 20, n} {
			out = append(out, mixedCode(n, kinds, seed))
		}
	}
	return out
}

func TestCodeByHand(t *testing.T) {
	for _, x := range []struct {
		name string
		g    api.Graph
		want string
	}{
		{"a node", of(1), "[]"},
		{"an edge", of(2, 1, 0), "[]"},
		{"three nodes", of(3, 0, 2, 2, 1), "[2]"},
		{"a path", path(5), "[1 2 3]"},
		{"a path, backward", of(4, 3, 2, 2, 1, 1, 0), "[1 2]"},
		{"a star", of(4, 0, 3, 1, 3, 2, 3), "[3 3]"},
		{"a star about 0", star(5), "[0 0 0]"},
		{"the example of the books", of(6, 0, 3, 1, 3, 2, 3, 3, 4, 4, 5), "[3 3 3 4]"},
		{"a node becomes a leaf that is less than others", of(5, 4, 0, 0, 1, 1, 2, 1, 3), "[1 1 0]"},
		{"nodes are numbers", of(12, 11, 0, 11, 1, 11, 2, 11, 3, 11, 4, 11, 5, 11, 6, 11, 7, 11, 8, 11, 9, 9, 10), "[11 11 11 11 11 11 11 11 11 9]"},
	} {
		for _, g := range []api.Graph{x.g, scrambled(x.g)} {
			code, f := trees.Code(g)
			same(t, "Code, "+x.name, code, x.want, f)
		}
	}
}

func TestTreeByHand(t *testing.T) {
	for _, x := range []struct {
		code []int
		want api.Graph
	}{
		{nil, of(2, 0, 1)},
		{[]int{}, of(2, 0, 1)},
		{[]int{0}, of(3, 0, 1, 0, 2)},
		{[]int{1}, of(3, 0, 1, 1, 2)},
		{[]int{2}, of(3, 0, 2, 1, 2)},
		{[]int{3, 3}, of(4, 0, 3, 1, 3, 2, 3)},
		{[]int{1, 2}, of(4, 0, 1, 1, 2, 2, 3)},
		{[]int{2, 1}, of(4, 0, 2, 1, 2, 1, 3)},
		{[]int{1, 1, 0}, of(5, 0, 1, 0, 4, 1, 2, 1, 3)},
		{[]int{3, 3, 3, 4}, of(6, 0, 3, 1, 3, 2, 3, 3, 4, 4, 5)},
	} {
		g, f := trees.Tree(x.code)
		same(t, fmt.Sprint("Tree of ", x.code), g, x.want, f)
	}
}

func TestCodesAndTreesBelongToEachOther(t *testing.T) {
	for n := 2; n <= 7; n++ {
		seen := map[string]bool{}
		codes(n, func(code []int) {
			seen[wantTree(t, code)] = true
		})
		count, f := trees.Count(full(n))
		same(t, fmt.Sprint("trees of ", n, " nodes"), len(seen), count, f)
	}
	for _, code := range greatCodes() {
		wantTree(t, code)
	}
}

// wantTree: a tree in form, of which the code is the code by either account. It tells the tree.
func wantTree(t *testing.T, code []int) string {
	t.Helper()
	g, f := trees.Tree(code)
	told := fmt.Sprint(g)
	if f != (api.Fault{}) || g.N != len(code)+2 || !isTree(g) || fmt.Sprint(named(g, rise(g.N))) != told {
		t.Errorf("Tree of %v: %s %v", code, told, f)
		return told
	}
	same(t, "the code by hand of "+told, codeByHand(g), code, f)
	for _, h := range []api.Graph{g, scrambled(g)} {
		again, f := trees.Code(h)
		same(t, "Code of "+told, again, code, f)
	}
	return told
}

// rise is 0 to n - 1.
func rise(n int) []int {
	l := make([]int, n)
	for i := range l {
		l[i] = i
	}
	return l
}

func TestAllTreesHaveCodes(t *testing.T) {
	for _, g := range append(small(5), medium()...) {
		code, f := trees.Code(g)
		text, again := trees.Canon(g)
		if !isTree(g) {
			wantFault(t, fmt.Sprint("Code of ", g), answer{code: code}, f, fault(api.ErrKind, 0))
			wantFault(t, fmt.Sprint("Canon of ", g), answer{text: text}, again, fault(api.ErrKind, 0))
			continue
		}
		same(t, fmt.Sprint("Code of ", g), code, codeByHand(g), f)
		same(t, fmt.Sprint("Canon of ", g), text, canonByHand(g), again)
	}
}

func TestNoTree(t *testing.T) {
	for _, x := range []struct {
		name string
		g    api.Graph
	}{
		{"nothing", of(0)},
		{"two nodes", of(2)},
		{"a ring of three", ring(3)},
		{"two edges apart", of(4, 0, 1, 2, 3)},
		{"as many edges as a tree, but two parts", beside(ring(3), of(1))},
		{"the ring behind the node", beside(of(1), ring(3))},
		{"a ring and a path", beside(ring(4), path(4))},
		{"an edge too many", with(path(6), 0, 5)},
		{"an edge too few", of(5, 0, 1, 1, 2, 3, 4)},
		{"MaxNodes alone", of(api.MaxNodes)},
		{"MaxNodes in a ring", ring(api.MaxNodes)},
		{"MaxNodes, a ring and a path", beside(ring(50), path(50))},
		{"MaxEdges", some(api.MaxNodes, api.MaxEdges)},
	} {
		for _, g := range []api.Graph{x.g, scrambled(x.g)} {
			code, f := trees.Code(g)
			wantFault(t, "Code, "+x.name, answer{code: code}, f, fault(api.ErrKind, 0))
			text, f := trees.Canon(g)
			wantFault(t, "Canon, "+x.name, answer{text: text}, f, fault(api.ErrKind, 0))
		}
	}
}

func TestTreeFaults(t *testing.T) {
	longest := make([]int, api.MaxNodes-2)
	g, f := trees.Tree(longest)
	same(t, "the longest code", g, star(api.MaxNodes), f)
	last := slices.Clone(longest)
	last[len(last)-1] = api.MaxNodes - 1
	g, f = trees.Tree(last)
	same(t, "the greatest node", g.N, api.MaxNodes, f)
	last[len(last)-1] = api.MaxNodes
	for _, x := range []struct {
		name string
		code []int
		want api.Fault
	}{
		{"a node too many", make([]int, api.MaxNodes-1), fault(api.ErrMany, 0)},
		{"far too many", make([]int, 100000), fault(api.ErrMany, 0)},
		{"many ahead of range", slices.Repeat([]int{-1}, api.MaxNodes-1), fault(api.ErrMany, 0)},
		{"below 0", []int{-1}, fault(api.ErrRange, 0)},
		{"n", []int{3}, fault(api.ErrRange, 0)},
		{"n behind others", []int{0, 4}, fault(api.ErrRange, 1)},
		{"the first one of several", []int{1, 2, 5, -1}, fault(api.ErrRange, 3)},
		{"the least and the greatest", []int{0, math.MinInt, math.MaxInt}, fault(api.ErrRange, 1)},
		{"the last one of the longest", last, fault(api.ErrRange, api.MaxNodes-3)},
	} {
		g, f := trees.Tree(x.code)
		wantFault(t, "Tree, "+x.name, answer{edges: g.Edges, number: g.N}, f, x.want)
	}
}

func TestCanonByHand(t *testing.T) {
	for _, x := range []struct {
		name string
		g    api.Graph
		want string
	}{
		{"a node", of(1), "()"},
		{"an edge", of(2, 1, 0), "(())"},
		{"three nodes", of(3, 0, 2, 2, 1), "((()))"},
		{"a star", star(4), "((()()))"},
		{"a path of four", of(4, 2, 0, 0, 3, 3, 1), "(((())))"},
		// from the far end of the longer arm on: the other arms hang at the third node, the one with more below it first
		{"a fork", of(5, 0, 1, 1, 2, 2, 3, 2, 4), "(((()())))"},
		{"the longer arm first", of(6, 0, 1, 1, 2, 2, 3, 3, 4, 2, 5), "((((())())))"},
		{"a path of MaxNodes", turned(path(api.MaxNodes), 37), strings.Repeat("(", api.MaxNodes) + strings.Repeat(")", api.MaxNodes)},
		{"a star of MaxNodes", turned(star(api.MaxNodes), 37), "((" + strings.Repeat("()", api.MaxNodes-2) + "))"},
	} {
		for _, g := range []api.Graph{x.g, scrambled(x.g)} {
			text, f := trees.Canon(g)
			same(t, "Canon, "+x.name, text, x.want, f)
		}
	}
}

// howMany trees of 2, 3, .. nodes there are, but for their numbers.
func howMany() []int { return []int{1, 1, 2, 3, 6, 11} }

func TestCanonTellsTreesApart(t *testing.T) {
	for i, want := range howMany() {
		n := i + 2
		texts := map[string]bool{}
		codes(n, func(code []int) {
			g, _ := trees.Tree(code)
			text, f := trees.Canon(g)
			same(t, fmt.Sprint("Canon of ", g), text, canonByHand(g), f)
			texts[text] = true
		})
		if len(texts) != want {
			t.Errorf("%d texts of trees of %d nodes, want %d", len(texts), n, want)
		}
	}
}

// TestCanonIsTheSameJustIfNumbersDiffer goes through all pairs of trees, by all ways to number one's nodes.
func TestCanonIsTheSameJustIfNumbersDiffer(t *testing.T) {
	for n := 2; n <= 5; n++ {
		canon := map[string]string{}
		like := map[string]map[string]bool{}
		codes(n, func(code []int) {
			g, _ := trees.Tree(code)
			text, _ := trees.Canon(g)
			canon[fmt.Sprint(g)] = text
			like[fmt.Sprint(g)] = map[string]bool{}
			for _, names := range orders(n) {
				like[fmt.Sprint(g)][fmt.Sprint(named(g, names))] = true
			}
		})
		for g, one := range canon {
			for h, other := range canon {
				if (one == other) != like[g][h] {
					t.Errorf("Canon of %s: %s; of %s: %s", g, one, h, other)
				}
			}
		}
	}
}

func TestCanonOfGreatTrees(t *testing.T) {
	for _, code := range greatCodes() {
		g, _ := trees.Tree(code)
		text, f := trees.Canon(g)
		same(t, fmt.Sprint("Canon of ", g), text, canonByHand(g), f)
		other, f := trees.Canon(scrambled(turned(g, 101)))
		same(t, fmt.Sprint("Canon of ", g, ", turned"), other, text, f)
	}
}
