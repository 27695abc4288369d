package width_test

import (
	"testing"

	"arbor/api"
	"arbor/width"
)

// wantLeast: bags over which the graph lies, of that width, and not too many of them.
func wantLeast(t *testing.T, name string, g api.Graph, want int) {
	t.Helper()
	wide, bags, up, f := width.Least(g)
	if f != (api.Fault{}) || wide != want || widthOf(bags) != want || len(bags) > api.MaxNodes {
		t.Errorf("Least of %s %v: %d %v %v %v, want %d", name, g, wide, bags, up, f, want)
		return
	}
	if faultOfFits(g, bags, up) != (api.Fault{}) || !liesOver(g, bags, up) {
		t.Errorf("Least of %s: %v does not lie over %v %v", name, g, bags, up)
	}
}

func TestLeastByHand(t *testing.T) {
	for _, c := range []struct {
		name string
		g    api.Graph
		want int
	}{
		{"no nodes", of(0), -1}, {"a node", of(1), 0}, {"nodes", of(3), 0}, {"as many nodes as may be", of(12), 0},
		{"an edge", of(2, 1, 0), 1}, {"an edge and a node", of(3, 0, 1), 1}, {"a path", path(12), 1}, {"a star", star(12), 1}, {"pairs", of(12, 0, 6, 1, 7, 2, 8, 3, 9, 4, 10, 5, 11), 1},
		{"a tree", of(7, 0, 1, 0, 2, 1, 3, 1, 4, 2, 5, 2, 6), 1}, {"a triangle", ring(3), 2}, {"a ring of four", ring(4), 2}, {"a ring of twelve", ring(12), 2},
		{"rings", nextTo(ring(5), ring(7)), 2}, {"a ring and all of five", nextTo(ring(7), full(5)), 4}, {"all of five and nodes", nextTo(full(5), of(7)), 4},
		{"a ladder", grid(2, 6), 2}, {"a grid", grid(3, 3), 3}, {"a longer grid", grid(3, 4), 3}, {"a wheel", wheel(12), 3}, {"a cube", cube(3), 3}, {"a prism", prism(3), 3},
		{"a prism of ten", prism(5), 4}, {"a ring of eight with what lies across", steps(8, 1, 4), 4}, {"an octahedron", groups(2, 2, 2), 4}, {"Petersen's", petersen(), 4}, {"an icosahedron", icosahedron(), 6},
		{"all of two", full(2), 1}, {"all of six", full(6), 5}, {"all of twelve", full(12), 11}, {"all of twelve but an edge", other(of(12, 3, 7)), 10}, {"all of twelve but a triangle", other(of(12, 3, 7, 7, 9, 9, 3)), 9},
		{"all of twelve but pairs", groups(2, 2, 2, 2, 2, 2), 10}, {"three threes", groups(3, 3, 3), 6}, {"three fours", groups(4, 4, 4), 8}, {"one, two, four, five", groups(1, 2, 4, 5), 7},
		{"two and ten", groups(2, 10), 2}, {"three and three", groups(3, 3), 3}, {"four and eight", groups(4, 8), 4}, {"six and six", groups(6, 6), 6},
	} {
		wantLeast(t, c.name, c.g, c.want)
		wantLeast(t, c.name+", scrambled", scrambled(c.g), c.want)
		for seed := range 5 {
			wantLeast(t, c.name+", shuffled", shuffled(c.g, seed), c.want)
		}
	}
}

func TestLeastOfAllSmallGraphs(t *testing.T) {
	forests := []int{1, 1, 2, 7, 38, 291, 2932} // so many graphs of so many nodes have no ring
	for n, want := range forests {
		few := 0
		for _, g := range small(n) {
			least := leastWidth(g)
			if least <= 1 {
				few++
			}
			wantLeast(t, "a graph", g, least)
		}
		if few != want {
			t.Errorf("%d graphs of %d nodes have width 1 or less, want %d", few, n, want)
		}
	}
}

func TestLeastOfMixedGraphs(t *testing.T) {
	for seed := range 600 {
		g := mixed(7+seed%3, 6+seed%50, seed)
		wantLeast(t, "a graph", g, leastWidth(g))
	}
	for seed := range 60 {
		g := mixed(10+seed%3, 8+seed%45, seed)
		wantLeast(t, "a greater graph", g, leastWidth(g))
	}
}

// Of graphs that are next to each other the greater width counts; all edges between them add to the one the nodes of the other.
func TestLeastOfTwoTogether(t *testing.T) {
	for seed := range 150 {
		a, b := mixed(1+seed%6, seed%13, seed), mixed(6, 3+seed%17, seed+1000)
		wideA, _, _, _ := width.Least(a)
		wideB, _, _, _ := width.Least(b)
		wantLeast(t, "two side by side", shuffled(nextTo(a, b), seed), max(wideA, wideB))
		wantLeast(t, "two with all edges", shuffled(joined(a, b), seed), min(wideA+b.N, wideB+a.N))
	}
}

// A graph over bags has no greater width than they have, and just theirs, if it has all edges in each bag.
func TestLeastOfWhatLiesOverBags(t *testing.T) {
	for seed := range 200 {
		bags := grown(12, 2+seed%8, 12, seed)
		whole := over(bags, 12, 100, seed)
		wantLeast(t, "all edges in each bag", shuffled(whole, seed), widthOf(bags.bags))
		if wide, _, _, _ := width.Least(over(bags, 12, 60, seed)); wide > widthOf(bags.bags) {
			t.Errorf("bags %v: width %d", bags, wide)
		}
	}
}

func TestLeastHasALimit(t *testing.T) {
	for _, g := range []api.Graph{of(13), path(13), full(13), of(99), of(100), ring(100), some(100, 1000)} {
		if wide, bags, up, f := width.Least(g); f != fault(api.ErrMany, 0) || wide != 0 || len(bags)+len(up) > 0 {
			t.Errorf("Least of %d nodes: %d %v %v %v", g.N, wide, bags, up, f)
		}
	}
}
