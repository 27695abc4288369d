package names_test

import (
	"testing"

	"arbor/api"
	"arbor/names"
)

func TestSameOfFewNodes(t *testing.T) {
	wantSame(t, "nothing", of(0), of(0), true)
	wantSame(t, "nothing and a node", of(0), of(1), false)
	wantSame(t, "nodes", of(1), of(1), true)
	wantSame(t, "fewer nodes", of(3), of(4), false)
	wantSame(t, "fewer nodes, as many edges", of(3, 0, 1), of(4, 0, 1), false)
	wantSame(t, "fewer edges", path(4), ring(4), false)
	wantSame(t, "an edge", of(2, 0, 1), of(2, 1, 0), true)
	wantSame(t, "an edge of three nodes", of(3, 0, 1), of(3, 2, 1), true)
	wantSame(t, "ring of four", ring(4), of(4, 0, 2, 2, 1, 1, 3, 3, 0), true)
	wantSame(t, "a ring with steps five times as long", jumps(16, 1, 3), jumps(16, 5, 15), true)
	wantSame(t, "ring of six and triangles", ring(6), copies(ring(3), 2), false)
}

func TestSameOfAllSmallGraphs(t *testing.T) {
	for n := range 5 {
		all := permutations(n)
		for _, a := range small(n) {
			for _, b := range small(n) {
				to, ok, f := names.Same(a, b)
				if ok != someTakes(all, a, b) || f != (api.Fault{}) || ok && !takes(to, a, b) || !ok && len(to) > 0 {
					t.Errorf("Same of %v and %v: %v %v %v", a, b, to, ok, f)
				}
			}
		}
	}
}

func TestSameOfShuffledFamilies(t *testing.T) {
	for seed, f := range families() {
		wantSame(t, f.name, f.g, shuffled(f.g, seed), true)
	}
}

// Graphs that look alike: as many nodes, as many edges at each, and often more than that.
func TestSameOfLookalikes(t *testing.T) {
	for _, kind := range [][]api.Graph{
		{ring(24), copies(ring(12), 2), copies(ring(8), 3), copies(ring(3), 8), nextTo(ring(3), ring(21)), nextTo(ring(11), ring(13)), nextTo(copies(ring(3), 6), ring(6))},
		{sides(3, 3), rooks(2, 3)},
		{nextTo(sides(3, 3), sides(3, 3), rooks(2, 3), rooks(2, 3)), nextTo(sides(3, 3), rooks(2, 3), rooks(2, 3), rooks(2, 3)), copies(sides(3, 3), 4), copies(rooks(2, 3), 4), nextTo(full(4), petersen(), petersen())},
		{rooks(4, 4), shrikhande()},
		{nextTo(rooks(4, 4), ring(8)), nextTo(shrikhande(), ring(8)), nextTo(shrikhande(), ring(4), ring(4)), nextTo(copies(ring(4), 2), rooks(4, 4))},
		{nextTo(of(8), rooks(4, 4)), nextTo(of(8), shrikhande())},
		{parity(full(4), false), shuffled(parity(full(4), true), 1)},
		{parity(sides(3, 3), false), parity(sides(3, 3), true), shuffled(parity(rooks(2, 3), false), 2), parity(rooks(2, 3), true)},
		{twoPlanes(still(7)), twoPlanes([]int{5, 4, 3, 2, 6, 1, 0}), twoPlanes([]int{5, 6, 4, 3, 2, 1, 0}), twoPlanes([]int{6, 5, 4, 3, 2, 1, 0})},
		{planeAndRest(still(7)), planeAndRest([]int{5, 4, 3, 2, 6, 1, 0}), planeAndRest([]int{5, 6, 4, 3, 2, 1, 0}), planeAndRest([]int{6, 5, 4, 3, 2, 1, 0})},
		{chorded(24, 5, -9, 7, -7, 9, -5), chorded(24, 12, 7, -7), chorded(24, 5, -5), jumps(24, 1, 12), nextTo(chorded(14, 5, -5), petersen()), moves([]int{1, 0, 2, 3}, []int{0, 2, 1, 3}, []int{0, 1, 3, 2})},
		{cube(4), switched(cube(4), 1, 3), jumps(16, 1, 3), jumps(16, 1, 6), jumps(16, 1, 7)},
	} {
		for i, a := range kind {
			for j, b := range kind {
				wantSame(t, "lookalikes", a, shuffled(b, i+j), i == j)
			}
		}
	}
}

// One pair of edges changed may, or may not, make another graph of it.
func TestSameOfSwitchedGraphs(t *testing.T) {
	same, different := 0, 0
	for seed := range 400 {
		n := 6 + seed%7
		g := switched(jumps(n, 1, 2), seed%30, seed)
		h := shuffled(switched(g, 1+seed%5, seed+1), seed)
		want := howMany(g, h, 1) > 0
		wantSame(t, "switched graphs", g, h, want)
		if want {
			same++
		} else {
			different++
		}
	}
	if same < 50 || different < 50 {
		t.Errorf("%d are the same, and %d are not: too few of the one kind are tried", same, different)
	}
}

func TestSameOfMixedGraphs(t *testing.T) {
	same, different := 0, 0
	for seed := range 600 {
		next := drawFrom(seed)
		n := 5 + next(3)
		g, h := mixed(n, 30, seed), mixed(n, 30, seed+7000)
		if seed%2 == 0 {
			h = shuffled(nextTo(path(2), mixed(n-2, 20, seed/7)), seed)
			g = nextTo(mixed(n-2, 20, seed/3), path(2))
		}
		want := howMany(g, h, 1) > 0
		wantSame(t, "mixed graphs", g, h, want)
		if want {
			same++
		} else {
			different++
		}
	}
	if same < 20 || different < 20 {
		t.Errorf("%d are the same, and %d are not: too few of the one kind are tried", same, different)
	}
}

// An edge more here and less there, at as many nodes as may be.
func TestSameAtTheLimit(t *testing.T) {
	for seed := range 60 {
		g := mixed(limit, 20+seed, seed)
		h := other(other(g))
		h.Edges = append(h.Edges[1:], other(g).Edges[seed%len(other(g).Edges)])
		wantSame(t, "an edge elsewhere", shuffled(g, seed), h, howMany(g, h, 1) > 0)
		wantSame(t, "shuffled", h, shuffled(h, seed), true)
		wantSame(t, "without an edge", g, api.Graph{N: g.N, Edges: g.Edges[1:]}, false)
	}
	wantSame(t, "with a node", of(limit-1), of(limit), false)
}
