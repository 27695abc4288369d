package match_test

import (
	"fmt"
	"math"
	"testing"

	"arbor/api"
	"arbor/match"
)

// half is the most pairs of a graph that Count takes.
const half = api.MaxSmall

func TestCountByHand(t *testing.T) {
	dodecahedron := of(20)
	for v := range 5 {
		// five nodes without, a ring of ten between, five within
		dodecahedron = with(dodecahedron, v, (v+1)%5, v, 5+2*v, 15+v, 15+(v+1)%5, 15+v, 6+2*v)
	}
	for v := range 10 {
		dodecahedron = with(dodecahedron, 5+v, 5+(v+1)%10)
	}
	for _, x := range []struct {
		name string
		g    api.Graph
		want int
	}{
		{"nothing", of(0), 1},
		{"a node", of(1), 0},
		{"two nodes", of(2), 0},
		{"an edge", of(2, 1, 0), 1},
		{"an edge and two nodes", of(4, 1, 2), 0},
		{"two edges", of(4, 1, 2, 3, 0), 1},
		{"a ring of three", ring(3), 0},
		{"a ring of four", ring(4), 2},
		{"a ring of four and a chord", with(ring(4), 0, 2), 2},
		{"all edges of four", full(4), 3},
		{"a star", star(4), 0},
		{"two rings", beside(ring(4), ring(6)), 4},
		{"two odd rings", beside(ring(5), ring(5)), 0},
		{"two odd rings and an edge between", chain(2, ring(5)), 1},
		{"Petersen's graph", petersen(), 6},
		{"a cube", of(8, 0, 1, 1, 2, 2, 3, 3, 0, 4, 5, 5, 6, 6, 7, 7, 4, 0, 4, 1, 5, 2, 6, 3, 7), 9},
		{"a dodecahedron", dodecahedron, 36},
		{"a grid of 16", grid(4, 4), 36},
		{"a grid of 4 by 5", grid(4, 5), 95},
		{"a grid of 4 by 6", grid(4, 6), 281},
		{"a grid of 3 by 8", grid(3, 8), 153},
		{"a grid of 15", grid(3, 5), 0},
		{"two sides, not as many", twoSides(11, 13), 0},
		{"the greatest number of nodes, no edge", of(2 * half), 0},
		{"an odd number of nodes, all edges", full(2*half - 1), 0},
		{"six times all edges of four", beside(beside(full(4), full(4)), beside(beside(full(4), full(4)), beside(full(4), full(4)))), 729},
	} {
		for _, g := range []api.Graph{x.g, scrambled(x.g)} {
			text, f := match.Count(g)
			same(t, "Count, "+x.name, text, x.want, f)
		}
	}
}

func TestCountOfFamilies(t *testing.T) {
	all, sides, ladder, before := 1, 1, 1, 1
	for k := 1; k <= half; k++ {
		all *= 2*k - 1
		sides *= k
		if k > 1 {
			ladder, before = ladder+before, ladder
		}
		for _, x := range []struct {
			name string
			g    api.Graph
			want int
		}{
			{"all edges", full(2 * k), all},
			{"all edges but one node's", beside(of(1), full(2*k-1)), 0},
			{"two sides", twoSides(k, k), sides},
			{"a ladder", grid(2, k), ladder},
			{"a path", path(2 * k), 1},
		} {
			for _, g := range []api.Graph{x.g, scrambled(x.g), turned(x.g, 1)} {
				text, f := match.Count(g)
				same(t, fmt.Sprint("Count, ", x.name, ", ", k), text, x.want, f)
			}
		}
		if k > 1 {
			text, f := match.Count(ring(2 * k))
			same(t, fmt.Sprint("Count of a ring, ", k), text, 2, f)
			text, f = match.Count(wheel(2*k - 1))
			same(t, fmt.Sprint("Count of a wheel, ", k), text, 2*k-1, f)
		}
	}
}

func TestCount(t *testing.T) {
	for _, g := range small(5) {
		text, f := match.Count(scrambled(g))
		same(t, fmt.Sprint("Count of ", g), text, accountOf(g).whole, f)
	}
	for _, g := range append(small(6), medium()...) {
		want := uint64(0)
		if g.N%2 == 0 {
			want = wholeBySets(g)
		}
		text, f := match.Count(g)
		same(t, fmt.Sprint("Count of ", g), text, want, f)
	}
}

func TestCountAtTheLimits(t *testing.T) {
	for seed, tries := range []int{40, 70, 120, 300, 2000} {
		for _, n := range []int{2*half - 4, 2*half - 1, 2 * half} {
			g := mixed(n, tries, seed)
			want := uint64(0)
			if n%2 == 0 {
				want = wholeBySets(g)
			}
			text, f := match.Count(g)
			same(t, fmt.Sprint("Count of ", g), text, want, f)
		}
	}
}

func TestCountOfTooMany(t *testing.T) {
	for _, x := range []struct {
		name string
		g    api.Graph
		want api.Fault
	}{
		{"a node too many", of(2*half + 1), fault(api.ErrMany, 0)},
		{"two nodes too many, in a ring", ring(2*half + 2), fault(api.ErrMany, 0)},
		{"as many nodes as a word has bits", path(32), fault(api.ErrMany, 0)},
		{"as many nodes as a long word has bits", path(64), fault(api.ErrMany, 0)},
		{"MaxNodes", ring(api.MaxNodes), fault(api.ErrMany, 0)},
		{"MaxEdges", some(api.MaxNodes, api.MaxEdges), fault(api.ErrMany, 0)},
		{"the greatest", of(math.MaxInt), fault(api.ErrMany, 0)},
		{"a loop ahead of a node too many", with(path(2*half+1), 3, 3), fault(api.ErrLoop, 2*half)},
		{"an edge to none ahead of a node too many", of(2*half+1, 0, 2*half+1), fault(api.ErrRange, 0)},
	} {
		text, f := match.Count(x.g)
		wantFault(t, "Count, "+x.name, answer{text: text}, f, x.want)
	}
}
