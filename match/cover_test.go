package match_test

import (
	"fmt"
	"slices"
	"testing"

	"arbor/api"
	"arbor/match"
)

func TestCoverByHand(t *testing.T) {
	for _, x := range []struct {
		name string
		g    api.Graph
		want int
	}{
		{"nothing", of(0), 0},
		{"a node", of(1), 0},
		{"two nodes", of(2), 0},
		{"an edge", of(2, 1, 0), 1},
		{"a path of four", path(4), 2},
		{"a ring of six", ring(6), 3},
		{"a star", star(9), 1},
		{"a tree", of(7, 0, 1, 0, 2, 1, 3, 1, 4, 2, 5, 2, 6), 2},
		{"two sides", twoSides(3, 5), 3},
		{"a grid", grid(3, 5), 7},
		{"two stars, a path, nodes", beside(beside(star(4), star(5)), beside(path(6), of(3))), 5},
		{"MaxNodes alone", of(api.MaxNodes), 0},
		{"two sides, many nodes", twoSides(10, 90), 10},
		{"two sides of MaxEdges", twoSides(25, 40), 25},
		{"a grid of MaxNodes", turned(grid(10, 10), 37), 50},
		{"a ring of MaxNodes", ring(api.MaxNodes), 50},
	} {
		for _, g := range []api.Graph{x.g, scrambled(x.g)} {
			if got := wantCover(t, g); got != x.want {
				t.Errorf("Cover, %s: %d, want %d", x.name, got, x.want)
			}
		}
	}
	for _, middle := range []api.Graph{star(4), scrambled(star(4))} {
		_, cover, f := match.Cover(middle)
		same(t, "a star's cover", cover, "[0]", f)
	}
}

// wantCover: of a graph with two sides a matching, and a cover with as many nodes as it has edges. It answers how many.
func wantCover(t *testing.T, g api.Graph) int {
	t.Helper()
	pairs, cover, f := match.Cover(g)
	if f != (api.Fault{}) {
		t.Errorf("Cover of %v: %v", g, f)
	}
	wantMatching(t, "Cover", g, pairs)
	wantNodes(t, "Cover", g, cover)
	if len(cover) != len(pairs) || len(without(g, cover).Edges) > 0 {
		t.Errorf("Cover of %v: %v and %v do not go together", g, pairs, cover)
	}
	return len(pairs)
}

// crossing has only those edges of g that go from a node below border to one from border on.
func crossing(g api.Graph, border int) api.Graph {
	out := api.Graph{N: g.N}
	for _, e := range g.Edges {
		if (e[0] < border) != (e[1] < border) {
			out.Edges = append(out.Edges, e)
		}
	}
	return out
}

func TestCover(t *testing.T) {
	all := slices.Concat(small(6), medium(), great())
	for seed := range 300 {
		g := mixed(97, 30+seed*4, seed)
		all = append(all, turned(crossing(g, 20+seed%57), 5))
	}
	kinds := map[bool]int{}
	for _, g := range all {
		kinds[hasSides(g)]++
		if hasSides(g) {
			wantCover(t, g)
			wantCover(t, scrambled(g))
			continue
		}
		pairs, cover, f := match.Cover(g)
		wantFault(t, fmt.Sprint("Cover of ", g), answer{pairs: pairs, first: cover}, f, fault(api.ErrKind, 0))
	}
	if kinds[true] < 300 || kinds[false] < 300 {
		t.Errorf("too few graphs of a kind: %v", kinds)
	}
}

func TestNoTwoSides(t *testing.T) {
	for _, x := range []struct {
		name string
		g    api.Graph
	}{
		{"a ring of three", ring(3)},
		{"a ring of five", scrambled(ring(5))},
		{"an odd ring behind others", beside(grid(3, 3), ring(7))},
		{"an odd ring ahead of others", beside(ring(7), grid(3, 3))},
		{"Petersen's graph", petersen()},
		{"a grid and an edge across", with(grid(10, 10), 0, 99)},
		{"a ring of 99", ring(99)},
		{"MaxEdges", some(api.MaxNodes, api.MaxEdges)},
	} {
		pairs, cover, f := match.Cover(x.g)
		wantFault(t, "Cover, "+x.name, answer{pairs: pairs, first: cover}, f, fault(api.ErrKind, 0))
	}
}
