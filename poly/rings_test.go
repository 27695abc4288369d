package poly_test

import (
	"testing"

	"arbor/api"
	"arbor/poly"
)

func wantRings(t *testing.T, name string, g api.Graph, want int) {
	t.Helper()
	if many, f := poly.Rings(g); f != (api.Fault{}) || many != want {
		t.Errorf("Rings of %s %v: %d %v, want %d", name, g, many, f, want)
	}
}

func TestRingsByHand(t *testing.T) {
	for _, c := range []struct {
		name string
		g    api.Graph
		want int
	}{
		{"no nodes", of(0), 0}, {"a node", of(1), 0}, {"two nodes", of(2), 0}, {"an edge", of(2, 0, 1), 0}, {"three nodes", of(3), 0}, {"a path", path(3), 0}, {"a triangle", full(3), 1},
		{"a triangle the other way round", of(3, 2, 1, 0, 2, 1, 0), 1}, {"a triangle and a node", nextTo(full(3), of(1)), 0}, {"a node and a triangle", nextTo(of(1), full(3)), 0}, {"a triangle with a leaf", hungAt(full(3), path(2)), 0},
		{"a ring of four", ring(4), 1}, {"all four but an edge", without(full(4), 1, 3), 1}, {"two triangles", nextTo(full(3), full(3)), 0}, {"two triangles at a node", hungAt(full(3), full(3)), 0},
		{"a ring of twelve", ring(12), 1}, {"two rings", nextTo(ring(6), ring(6)), 0}, {"a path of twelve", path(12), 0}, {"a star", star(12), 0}, {"twelve nodes", of(12), 0},
		{"a wheel", wheel(12), 11}, {"Petersen's", petersen(), 0}, {"a cube", cube(3), 6}, {"an octahedron", groups(2, 2, 2), 16}, {"an icosahedron", icosahedron(), 1280},
		{"Petersen's without a node", without9(), 2}, {"six and six", groups(6, 6), 43200}, {"five and seven", groups(5, 7), 0}, {"a grid", grid(3, 4), 2}, {"an odd grid", grid(3, 3), 0},
		{"eleven of twelve at one node", hungAt(full(11), path(2)), 0}, {"all eleven, and a node", nextTo(full(11), of(1)), 0}, {"a node, and all eleven", nextTo(of(1), full(11)), 0},
		{"all twelve but an edge", without(full(12), 0, 11), 19958400 - 3628800}, {"a prism of six", prism(6), 8},
	} {
		wantRings(t, c.name, c.g, c.want)
		wantRings(t, c.name+", shuffled", shuffled(c.g, 4), c.want)
	}
}

// without9 is Petersen's graph without its last node.
func without9() api.Graph {
	g := api.Graph{N: 9}
	for _, e := range petersen().Edges {
		if e[0] != 9 && e[1] != 9 {
			g.Edges = append(g.Edges, e)
		}
	}
	return g
}

func TestRingsOfAllEdges(t *testing.T) {
	for n := 3; n <= api.MaxSmall; n++ {
		wantRings(t, "all edges", full(n), factorial(n-1)/2)
		wantRings(t, "all edges", scrambled(full(n)), factorial(n-1)/2)
		if n%2 == 0 && n > 2 {
			wantRings(t, "two sides", groups(n/2, n/2), max(1, factorial(n/2)*factorial(n/2-1)/2))
		}
		if n > 3 {
			wantRings(t, "a wheel", wheel(n), n-1)
		}
	}
}

func TestRingsOfAllSmallGraphs(t *testing.T) {
	for n := range 6 {
		for _, g := range small(n) {
			want := ringsOf(g)
			wantRings(t, "a graph", g, want)
			wantRings(t, "a graph, scrambled", scrambled(g), want)
			if got := ringsByOrder(g); got != want {
				t.Errorf("%v: %d rings by order, %d by edges", g, got, want)
			}
			if got := ringsByWalks(g); got != want {
				t.Errorf("%v: %d rings by walks, %d by edges", g, got, want)
			}
		}
	}
	for at, g := range small(6) {
		if at%3 == 0 {
			wantRings(t, "a graph", g, ringsByOrder(g))
		}
	}
}

func TestRingsOfGreaterGraphs(t *testing.T) {
	found := 0
	for _, g := range fewNodes() {
		want := ringsByWalks(g)
		wantRings(t, "a graph", g, want)
		if want > 0 {
			found++
		}
	}
	if found < 30 || found > len(fewNodes())-30 {
		t.Errorf("%d of %d have rings", found, len(fewNodes()))
	}
}
