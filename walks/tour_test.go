package walks_test

import (
	"fmt"
	"testing"

	"arbor/api"
	"arbor/walks"
)

// along counts how often a walk goes along each edge of g; it is a fault of the test if it leaves the edges.
func along(t *testing.T, what string, g api.Graph, walk []int) map[[2]int]int {
	t.Helper()
	count := map[[2]int]int{}
	for i := 1; i < len(walk); i++ {
		u, v := walk[i-1], walk[i]
		if !has(g, u, v) {
			t.Fatalf("%s: %v: no edge %d-%d in %v", what, walk, u, v, g)
		}
		count[[2]int{min(u, v), max(u, v)}]++
	}
	return count
}

// wantEuler: a walk along each edge just once, if there is one.
func wantEuler(t *testing.T, g api.Graph, there bool) {
	t.Helper()
	what := fmt.Sprint("Euler of ", g)
	l, f := walks.Euler(g)
	if !there {
		wantFault(t, what, l, f, fault(api.ErrNone, 0))
		return
	}
	wantNodes := len(g.Edges) + 1
	if len(g.Edges) == 0 {
		wantNodes = 0
	}
	if f != (api.Fault{}) || len(l) != wantNodes {
		t.Errorf("%s: %v %v, want %d nodes", what, l, f, wantNodes)
		return
	}
	// as many steps as edges, so that each is gone along once if all are
	if count := along(t, what, g, l); len(count) != len(g.Edges) {
		t.Errorf("%s: %v goes along %d edges of %d", what, l, len(count), len(g.Edges))
	}
	if len(l) > 0 && (l[0] == l[len(l)-1]) != (len(oddOnes(g)) == 0) {
		t.Errorf("%s: %v ends at %d", what, l, l[len(l)-1])
	}
}

// wantPostman: a walk along each edge with so many edges in all; -1: there is none.
func wantPostman(t *testing.T, g api.Graph, edges int) {
	t.Helper()
	what := fmt.Sprint("Postman of ", g)
	l, f := walks.Postman(g)
	if edges < 0 {
		wantFault(t, what, l, f, fault(api.ErrNone, 0))
		return
	}
	wantNodes := edges + 1
	if edges == 0 {
		wantNodes = 0
	}
	if f != (api.Fault{}) || len(l) != wantNodes {
		t.Errorf("%s: %v %v, want %d nodes", what, l, f, wantNodes)
		return
	}
	if count := along(t, what, g, l); len(count) != len(g.Edges) {
		t.Errorf("%s: %v goes along %d edges of %d", what, l, len(count), len(g.Edges))
	}
	if len(l) > 0 && l[0] != l[len(l)-1] {
		t.Errorf("%s: %v ends elsewhere", what, l)
	}
}

func TestEulerByHand(t *testing.T) {
	l, f := walks.Euler(path(3))
	if told := fmt.Sprint(l); told != "[0 1 2]" && told != "[2 1 0]" || f != (api.Fault{}) {
		t.Errorf("Euler of a path: %v %v", l, f)
	}
	for _, x := range []struct {
		g     api.Graph
		there bool
	}{
		{of(0), true},
		{of(1), true},
		{of(api.MaxNodes), true},
		{of(2, 0, 1), true},
		{of(4, 3, 2), true},
		{ring(5), true},
		{beside(of(3), ring(5)), true},
		{full(4), false},
		{full(5), true},
		{of(4, 0, 1, 2, 3), false},
		{beside(ring(3), ring(3)), false},
		{beside(ring(3), path(3)), false},
		{beside(path(3), ring(3)), false},
		{beside(path(3), path(2)), false},
		{star(4), false},
		{star(3), true},
		// the bridges of Koenigsberg, each with a node on it
		{of(11, 0, 4, 4, 1, 0, 5, 5, 1, 0, 6, 6, 2, 0, 7, 7, 2, 0, 8, 8, 3, 1, 9, 9, 3, 2, 10, 10, 3), false},
		// a house, and rounds that must be put into others
		{of(5, 0, 1, 1, 2, 2, 3, 3, 0, 0, 2, 1, 3, 2, 4, 3, 4), true},
		{of(7, 0, 1, 1, 2, 2, 0, 2, 3, 3, 4, 4, 2, 4, 5, 5, 6, 6, 4), true},
		{petersen(), false},
	} {
		wantEuler(t, x.g, x.there)
		wantEuler(t, scrambled(x.g), x.there)
	}
}

func TestEuler(t *testing.T) {
	for _, g := range small(5) {
		wantEuler(t, scrambled(g), hasTrail(g))
	}
	for _, g := range append(medium(), great()...) {
		wantEuler(t, g, oneComponent(g) && len(oddOnes(g)) <= 2)
	}
}

func TestEulerLimits(t *testing.T) {
	wantEuler(t, ring(api.MaxNodes), true)
	wantEuler(t, turned(path(api.MaxNodes), 37), true)
	wantEuler(t, full(45), true)
	wantEuler(t, with(beside(of(25), full(45)), 30, 3), true)
	wantEuler(t, evened(mixed(api.MaxNodes, 900, 5)), true)
	// twenty by fifty are MaxEdges, all nodes even
	wantEuler(t, turned(twoSides(20, 50), 3), true)
	wantEuler(t, some(api.MaxNodes, api.MaxEdges), false)
}

// evened has an edge put in, or taken away, between odd nodes until none is left.
func evened(g api.Graph) api.Graph {
	for odd := oddOnes(g); len(odd) > 0; odd = oddOnes(g) {
		u, v := odd[0], odd[1]
		if !has(g, u, v) {
			g = with(g, u, v)
			continue
		}
		h := api.Graph{N: g.N}
		for _, e := range g.Edges {
			if e != [2]int{u, v} && e != [2]int{v, u} {
				h.Edges = append(h.Edges, e)
			}
		}
		g = h
	}
	return g
}

func TestPostmanByHand(t *testing.T) {
	for _, x := range []struct {
		g     api.Graph
		edges int
	}{
		{of(0), 0},
		{of(3), 0},
		{of(api.MaxNodes), 0},
		{of(2, 1, 0), 2},
		{path(3), 4},
		{ring(5), 5},
		{beside(of(2), ring(5)), 5},
		{full(4), 8},
		{full(5), 10},
		{star(4), 6},
		{petersen(), 20},
		{with(ring(8), 0, 4), 10},
		{with(ring(8), 0, 2, 4, 6), 12},
		{of(4, 0, 1, 2, 3), -1},
		{beside(ring(3), ring(3)), -1},
		{beside(path(3), beside(of(1), path(2))), -1},
	} {
		wantPostman(t, x.g, x.edges)
		wantPostman(t, scrambled(x.g), x.edges)
	}
}

func TestPostmanOfSmallGraphs(t *testing.T) {
	for _, g := range small(5) {
		want := shortestRound(g)
		if len(g.Edges) == 0 {
			want = 0
		}
		wantPostman(t, scrambled(g), want)
	}
}

// wantPostmanAnyhow holds what is told of any graph against the second account.
func wantPostmanAnyhow(t *testing.T, g api.Graph) {
	t.Helper()
	switch {
	case !oneComponent(g):
		wantPostman(t, g, -1)
	case len(oddOnes(g)) > api.MaxSmall:
		l, f := walks.Postman(g)
		wantFault(t, fmt.Sprint("Postman of ", g), l, f, fault(api.ErrMany, 0))
	default:
		wantPostman(t, g, roundOf(g))
	}
}

func TestPostmanOfMediumGraphs(t *testing.T) {
	for _, g := range medium() {
		wantPostmanAnyhow(t, g)
		if len(g.Edges) <= 14 && oneComponent(g) && len(oddOnes(g)) <= api.MaxSmall {
			wantPostman(t, g, roundByEdges(g))
		}
	}
}

func TestPostmanLimits(t *testing.T) {
	for _, g := range great() {
		wantPostmanAnyhow(t, g)
	}
	wantPostman(t, path(api.MaxNodes), 2*(api.MaxNodes-1))
	wantPostman(t, full(45), 990)
	wantPostman(t, turned(twoSides(20, 50), 3), api.MaxEdges)
	for seed := range 20 {
		g := evened(mixed(api.MaxNodes, 200+seed*35, seed))
		// six edges more, of twelve different nodes
		for i := 0; i < api.MaxSmall; i += 2 {
			if !has(g, 5*i, 5*i+7) {
				g = with(g, 5*i, 5*i+7)
			}
		}
		wantPostmanAnyhow(t, g)
	}
}

func TestPostmanOfManyOddNodes(t *testing.T) {
	// a star of MaxSmall leaves has so many odd nodes, and an even one in the middle
	wantPostman(t, star(api.MaxSmall+1), 2*api.MaxSmall)
	// one leaf more, and the middle is odd, too
	l, f := walks.Postman(star(api.MaxSmall + 2))
	wantFault(t, "Postman of a greater star", l, f, fault(api.ErrMany, 0))
	wantPostman(t, full(api.MaxSmall), 66+6)
	l, f = walks.Postman(full(api.MaxSmall + 2))
	wantFault(t, "Postman of a full graph", l, f, fault(api.ErrMany, 0))
	l, f = walks.Postman(star(api.MaxNodes))
	wantFault(t, "Postman of the greatest star", l, f, fault(api.ErrMany, 0))
	// none is told ahead of too many
	l, f = walks.Postman(beside(star(20), star(20)))
	wantFault(t, "Postman of two stars", l, f, fault(api.ErrNone, 0))
	l, f = walks.Postman(beside(star(8), star(8)))
	wantFault(t, "Postman of two lesser stars", l, f, fault(api.ErrNone, 0))
	// the number of edges of a node counts, not the number of nodes
	wantPostman(t, ring(api.MaxNodes), api.MaxNodes)
}
