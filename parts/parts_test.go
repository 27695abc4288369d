package parts_test

import (
	"fmt"
	"math"
	"testing"

	"arbor/api"
	"arbor/parts"
)

// bow is two triangles at one node.
func bow() api.Graph { return of(5, 0, 1, 1, 2, 0, 2, 2, 3, 3, 4, 2, 4) }

func TestTwoTrianglesAtOneNode(t *testing.T) {
	a, f := parts.Components(bow())
	same(t, "Components", a, "[[0 1 2 3 4]]", f)
	b, f := parts.Blocks(bow())
	same(t, "Blocks", b, "[[[0 1] [0 2] [1 2]] [[2 3] [2 4] [3 4]]]", f)
	c, f := parts.Bridges(bow())
	same(t, "Bridges", c, "[]", f)
	d, f := parts.Cuts(bow())
	same(t, "Cuts", d, "[2]", f)
	s, odd, f := parts.Sides(bow())
	same(t, "Sides", len(s), 0, f)
	if len(odd) != 3 || !isOddRing(bow(), odd) {
		t.Errorf("Sides: odd %v, want a triangle", odd)
	}
}

func TestByHand(t *testing.T) {
	for _, x := range []struct {
		name                                   string
		g                                      api.Graph
		components, blocks, bridges, cuts, two string
	}{
		{"nothing", of(0), "[]", "[]", "[]", "[]", "[]"},
		{"no nodes, an empty list", api.Graph{Edges: [][2]int{}}, "[]", "[]", "[]", "[]", "[]"},
		{"a node", of(1), "[[0]]", "[]", "[]", "[]", "[0]"},
		{"two nodes", of(2), "[[0] [1]]", "[]", "[]", "[]", "[0 0]"},
		{"an edge", of(2, 1, 0), "[[0 1]]", "[[[0 1]]]", "[[0 1]]", "[]", "[0 1]"},
		{"a path", of(3, 2, 0, 1, 2), "[[0 1 2]]", "[[[0 2]] [[1 2]]]", "[[0 2] [1 2]]", "[2]", "[0 0 1]"},
		{"two edges across", of(4, 3, 1, 2, 0), "[[0 2] [1 3]]", "[[[0 2]] [[1 3]]]", "[[0 2] [1 3]]", "[]", "[0 0 1 1]"},
		{"a ring of four", of(4, 3, 0, 2, 3, 1, 2, 0, 1), "[[0 1 2 3]]", "[[[0 1] [0 3] [1 2] [2 3]]]", "[]", "[]", "[0 1 0 1]"},
		{"two rings and a bridge", of(8, 0, 7, 7, 1, 1, 6, 6, 0, 6, 2, 2, 3, 3, 5, 5, 4, 4, 2), "[[0 1 2 3 4 5 6 7]]", "[[[0 6] [0 7] [1 6] [1 7]] [[2 3] [2 4] [3 5] [4 5]] [[2 6]]]", "[[2 6]]", "[2 6]", "[0 0 0 1 1 0 1 1]"},
	} {
		a, f := parts.Components(x.g)
		same(t, x.name+": Components", a, x.components, f)
		b, f := parts.Blocks(x.g)
		same(t, x.name+": Blocks", b, x.blocks, f)
		c, f := parts.Bridges(x.g)
		same(t, x.name+": Bridges", c, x.bridges, f)
		d, f := parts.Cuts(x.g)
		same(t, x.name+": Cuts", d, x.cuts, f)
		s, odd, f := parts.Sides(x.g)
		same(t, x.name+": Sides", s, x.two, f)
		same(t, x.name+": odd", len(odd), 0, f)
	}
}

// wantParts holds all that can be told of g, of any size, against the second account.
func wantParts(t *testing.T, g api.Graph) {
	t.Helper()
	what := fmt.Sprint(g)
	a, f := parts.Components(g)
	same(t, "Components of "+what, a, components(g), f)
	c, f := parts.Bridges(g)
	same(t, "Bridges of "+what, c, bridges(g), f)
	d, f := parts.Cuts(g)
	same(t, "Cuts of "+what, d, cuts(g), f)
	b, f := parts.Blocks(g)
	wantFollows(t, what, g, b, f, c, d)
	s, odd, f := parts.Sides(g)
	wantSides(t, what, g, s, odd, f)
}

// wantFollows: all edges are in the blocks, a bridge is a block of one edge, a cut is a node in two blocks.
func wantFollows(t *testing.T, what string, g api.Graph, blocks [][][2]int, f api.Fault, bridges [][2]int, cuts []int) {
	t.Helper()
	var all, alone [][2]int
	in := make([]int, g.N)
	for _, block := range blocks {
		same(t, "in form", block, inForm(block), f)
		all = append(all, block...)
		if len(block) == 1 {
			alone = append(alone, block[0])
		}
		seen := map[int]bool{}
		for _, e := range block {
			seen[e[0]], seen[e[1]] = true, true
		}
		for v := range seen {
			in[v]++
		}
	}
	same(t, "all edges of "+what, inForm(all), inForm(g.Edges), f)
	same(t, "blocks of one edge of "+what, alone, bridges, f)
	var twice []int
	for v, k := range in {
		if k > 1 {
			twice = append(twice, v)
		}
	}
	same(t, "nodes in two blocks of "+what, twice, cuts, f)
	for i := 1; i < len(blocks); i++ {
		same(t, "first edges rise in "+what, inForm([][2]int{blocks[i-1][0], blocks[i][0]}), [][2]int{blocks[i-1][0], blocks[i][0]}, f)
	}
}

// wantSides: the one or the other, and it shows that it is right.
func wantSides(t *testing.T, what string, g api.Graph, side, odd []int, f api.Fault) {
	t.Helper()
	if f != (api.Fault{}) {
		t.Fatalf("Sides of %s: %v", what, f)
	}
	if len(odd) > 0 {
		if len(side) > 0 || !isOddRing(g, odd) {
			t.Errorf("Sides of %s: %v, odd %v is no odd ring", what, side, odd)
		}
		return
	}
	if len(side) != g.N {
		t.Fatalf("Sides of %s: %v, of %d nodes", what, side, g.N)
	}
	for _, e := range g.Edges {
		if side[e[0]]+side[e[1]] != 1 || side[e[0]]*side[e[1]] != 0 {
			t.Errorf("Sides of %s: %v, edge %v", what, side, e)
		}
	}
	for _, part := range components(g) {
		if side[part[0]] != 0 {
			t.Errorf("Sides of %s: %v, %d is the first of a component", what, side, part[0])
		}
	}
}

func TestAllSmallGraphs(t *testing.T) {
	for n := range 6 {
		for _, g := range small(n) {
			wantParts(t, g)
			wantParts(t, scrambled(g))
			b, f := parts.Blocks(scrambled(g))
			same(t, fmt.Sprint("Blocks of ", g), b, blocks(g), f)
			s, _, f := parts.Sides(scrambled(g))
			same(t, fmt.Sprint("Sides of ", g), s, append([]int{}, sides(g)...), f)
		}
	}
}

func TestMediumGraphs(t *testing.T) {
	for i, g := range medium() {
		wantParts(t, g)
		if g.N <= 10 && len(g.Edges) <= 16 {
			b, f := parts.Blocks(g)
			same(t, fmt.Sprint(i, " Blocks of ", g), b, blocks(g), f)
		}
	}
}

func TestGreatGraphs(t *testing.T) {
	for _, g := range great() {
		if len(g.Edges) < 200 {
			wantParts(t, scrambled(g))
			continue
		}
		a, f := parts.Components(g)
		same(t, "Components", a, components(g), f)
		d, f := parts.Cuts(g)
		same(t, "Cuts", d, cuts(g), f)
		c, f := parts.Bridges(g)
		b, f := parts.Blocks(g)
		wantFollows(t, fmt.Sprint(g), g, b, f, c, d)
		s, odd, f := parts.Sides(scrambled(g))
		wantSides(t, fmt.Sprint(g), g, s, odd, f)
	}
}

func TestGreatGraphsByHand(t *testing.T) {
	a, f := parts.Components(of(api.MaxNodes))
	same(t, "Components of nodes alone", len(a), api.MaxNodes, f)
	b, f := parts.Blocks(ring(api.MaxNodes))
	same(t, "Blocks of a ring", b, [][][2]int{inForm(ring(api.MaxNodes).Edges)}, f)
	b, f = parts.Blocks(full(45))
	same(t, "Blocks of a full graph", b, [][][2]int{full(45).Edges}, f)
	c, f := parts.Bridges(path(api.MaxNodes))
	same(t, "Bridges of a path", c, path(api.MaxNodes).Edges, f)
	d, f := parts.Cuts(path(api.MaxNodes))
	same(t, "Cuts of a path", len(d), api.MaxNodes-2, f)
	d, f = parts.Cuts(star(api.MaxNodes))
	same(t, "Cuts of a star", d, "[0]", f)
	s, odd, f := parts.Sides(ring(api.MaxNodes - 1))
	same(t, "Sides of an odd ring", fmt.Sprint(len(s), len(odd)), "0 99", f)
	most := api.Graph{N: 65}
	for u := range 25 {
		for v := range 40 {
			most.Edges = append(most.Edges, [2]int{u, 25 + v})
		}
	}
	s, odd, f = parts.Sides(most)
	wantSides(t, "MaxEdges on two sides", most, s, odd, f)
	same(t, "MaxEdges on two sides", fmt.Sprint(len(most.Edges), len(s), len(odd)), "1000 65 0", f)
}

type faulty struct {
	name string
	g    api.Graph
	f    api.Fault
}

func faultyGraphs() []faulty {
	last := some(api.MaxNodes, api.MaxEdges)
	last.Edges[api.MaxEdges-1] = [2]int{1, 0}
	return []faulty{
		{"N below 0", of(-1), fault(api.ErrMany, 0)},
		{"N the least", of(math.MinInt), fault(api.ErrMany, 0)},
		{"a node too many", of(api.MaxNodes + 1), fault(api.ErrMany, 0)},
		{"N the greatest", of(math.MaxInt), fault(api.ErrMany, 0)},
		{"an edge too many", some(api.MaxNodes, api.MaxEdges+1), fault(api.ErrMany, 0)},
		{"too many edges ahead of loops", api.Graph{N: 2, Edges: make([][2]int, api.MaxEdges+1)}, fault(api.ErrMany, 0)},
		{"N ahead of an edge", of(-1, 0, 0), fault(api.ErrMany, 0)},
		{"second node N", of(2, 0, 1, 0, 2), fault(api.ErrRange, 1)},
		{"first node below 0", of(2, -1, 0), fault(api.ErrRange, 0)},
		{"an edge without nodes", of(0, 0, 1), fault(api.ErrRange, 0)},
		{"a loop", of(2, 0, 1, 1, 1), fault(api.ErrLoop, 1)},
		{"twice, the other way round", of(3, 0, 1, 1, 2, 1, 0), fault(api.ErrTwice, 2)},
		{"range ahead of loop", of(2, 2, 2), fault(api.ErrRange, 0)},
		{"an earlier loop ahead of range", of(3, 0, 1, 1, 1, 0, 9), fault(api.ErrLoop, 1)},
		{"an earlier twice ahead of loop", of(3, 0, 1, 1, 0, 2, 2), fault(api.ErrTwice, 1)},
		{"the last edge of MaxEdges", last, fault(api.ErrTwice, api.MaxEdges-1)},
	}
}

func TestAllTellWhatCheckSays(t *testing.T) {
	for _, x := range faultyGraphs() {
		for _, c := range calls() {
			got, f := c.ask(x.g)
			if f != x.f {
				t.Errorf("%s, %s: %v, want %v", c.name, x.name, f, x.f)
			}
			for _, a := range got {
				if fmt.Sprint(a) != "[]" {
					t.Errorf("%s, %s: %v beside the fault", c.name, x.name, a)
				}
			}
		}
	}
}
