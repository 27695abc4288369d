package colour_test

import (
	"slices"
	"testing"

	"arbor/api"
	"arbor/colour"
)

func TestNumberByHand(t *testing.T) {
	for _, c := range []struct {
		name string
		g    api.Graph
		want int
	}{
		{"no nodes", of(0), 0}, {"a node", of(1), 1}, {"nodes without an edge", of(12), 1}, {"an edge", of(2, 1, 0), 2},
		{"a path", path(12), 2}, {"a star", star(12), 2}, {"ring of three", ring(3), 3}, {"ring of four", ring(4), 2}, {"ring of five", ring(5), 3},
		{"ring of eleven", ring(11), 3}, {"ring of twelve", ring(12), 2}, {"Petersen's", petersen(), 3}, {"all edges", full(12), 12}, {"all but one", without(full(12), 3, 7), 11},
		{"two sides", twoSides(6, 6), 2}, {"a ring and a middle", with(nextTo(ring(5), of(1)), 5, 0, 5, 1, 5, 2, 5, 3, 5, 4), 4},
		{"two rings, all edges between them", bothRings(), 6}, {"no three with all edges", grotzsch(), 4}, {"grid", grid(3, 4), 2},
		{"beside each other", nextTo(full(4), full(8)), 8}, {"greater one last", turned(nextTo(full(5), ring(7)), 5), 5},
	} {
		wantNumber(t, c.name, c.g, c.want)
	}
}

// bothRings has two rings of five nodes, and all edges from one to the other.
func bothRings() api.Graph {
	g := nextTo(ring(5), ring(5))
	for u := range 5 {
		for v := 5; v < 10; v++ {
			g = with(g, u, v)
		}
	}
	return g
}

// grotzsch needs four colours, and has no three nodes with all edges.
func grotzsch() api.Graph {
	g := nextTo(ring(5), of(6))
	for v := range 5 {
		g = with(g, v+5, (v+1)%5, v+5, (v+4)%5, v+5, 10)
	}
	return g
}

func wantNumber(t *testing.T, name string, g api.Graph, want int) {
	t.Helper()
	k, colours, f := colour.Number(g)
	if k != want || f != (api.Fault{}) || !isColouring(g, colours, k) {
		t.Errorf("Number of %s: %d %v %v, want %d", name, k, colours, f, want)
	}
}

func TestPolyByHand(t *testing.T) {
	for _, c := range []struct {
		name string
		g    api.Graph
		want []int
	}{
		{"no nodes", of(0), []int{1}}, {"a node", of(1), []int{0, 1}}, {"three nodes", of(3), []int{0, 0, 0, 1}}, {"an edge", of(2, 0, 1), []int{0, -1, 1}},
		{"an edge and a node", of(3, 2, 0), []int{0, 0, -1, 1}}, {"a path", of(3, 2, 1, 0, 1), []int{0, 1, -2, 1}}, {"ring of three", ring(3), []int{0, 2, -3, 1}},
		{"ring of five", ring(5), []int{0, 4, -10, 10, -5, 1}}, {"all four", full(4), []int{0, -6, 11, -6, 1}},
		{"Petersen's", petersen(), []int{0, -704, 2606, -4305, 4275, -2861, 1353, -455, 105, -15, 1}},
		{"all twelve", full(12), []int{0, -39916800, 120543840, -150917976, 105258076, -45995730, 13339535, -2637558, 357423, -32670, 1925, -66, 1}},
		{"twelve", of(12), []int{0, 0, 0, 0, 0, 0, 0, 0, 0, 0, 0, 0, 1}},
	} {
		p, f := colour.Poly(c.g)
		if !slices.Equal(p, c.want) || f != (api.Fault{}) {
			t.Errorf("Poly of %s: %v %v, want %v", c.name, p, f, c.want)
		}
	}
}

// wantCounts holds Number and Poly against how many colourings there are with colours below 0, 1, ..: of more numbers than there are coefficients.
func wantCounts(t *testing.T, g api.Graph, counts []int) {
	t.Helper()
	wantNumber(t, "a graph", g, slices.IndexFunc(counts, func(many int) bool { return many > 0 }))
	p, f := colour.Poly(g)
	if len(p) != g.N+1 || f != (api.Fault{}) {
		t.Fatalf("Poly of %v: %v %v, want %d coefficients", g, p, f, g.N+1)
	}
	for x, many := range counts {
		if got := valueAt(p, x); got != many {
			t.Errorf("Poly of %v: %v is %d at %d, want %d", g, p, got, x, many)
		}
	}
}

func TestNumberAndPolyOfAllSmallGraphs(t *testing.T) {
	for n := range 6 {
		for _, g := range small(n) {
			var all []int
			for x := range n + 2 {
				all = append(all, countAll(g, x))
			}
			wantCounts(t, g, all)
			wantCounts(t, scrambled(g), all)
		}
	}
}

func TestNumberAndPolyOfMixedGraphs(t *testing.T) {
	for seed := range 120 {
		g := mixed(6+seed%4, 3+seed%37, seed)
		wantCounts(t, g, counts(g, g.N+1))
	}
	for _, g := range []api.Graph{petersen(), grotzsch(), grid(3, 4), ring(11), turned(ring(12), 5), star(12), path(12), twoSides(5, 7), wheelOf(12, 1, 2, 6), full(11), turned(nextTo(ring(5), ring(7)), 7)} {
		wantCounts(t, g, counts(g, g.N+1))
	}
	for seed := range 20 {
		g := mixed(api.MaxSmall, 10+8*seed, seed)
		wantCounts(t, g, counts(g, g.N+1))
	}
}

func TestPolyAtLessOneCountsDirections(t *testing.T) {
	all := []api.Graph{petersen(), grid(3, 3), ring(12), path(12), twoSides(3, 4), turned(nextTo(ring(5), star(7)), 5)}
	for n := range 6 {
		all = append(all, small(n)...)
	}
	for _, g := range all {
		p, _ := colour.Poly(g)
		many := valueAt(p, -1)
		if g.N%2 == 1 {
			many = -many
		}
		if want := ringless(g); many != want {
			t.Errorf("Poly of %v: %v, %d at -1, want %d", g, p, many, want)
		}
	}
}

// Each call tells what is wrong with a graph, then that it has too many nodes for it, then that it has nothing to tell.
func TestFaults(t *testing.T) {
	for _, c := range calls() {
		for _, w := range []struct {
			name string
			g    api.Graph
			want api.Fault
		}{
			{"fewer nodes than none", of(-1), fault(api.ErrMany, 0)},
			{"one node too many", of(api.MaxNodes + 1), fault(api.ErrMany, 0)},
			{"one edge too many", some(api.MaxNodes, api.MaxEdges+1), fault(api.ErrMany, 0)},
			{"one edge too many, and it is wrong", with(some(api.MaxNodes, api.MaxEdges), 0, 0), fault(api.ErrMany, 0)},
			{"no node", of(3, 0, 1, 1, 3), fault(api.ErrRange, 1)},
			{"no node, of none", of(0, 0, 1), fault(api.ErrRange, 0)},
			{"below 0", of(3, 0, 1, 1, 2, -1, 2), fault(api.ErrRange, 2)},
			{"a loop", of(3, 0, 1, 2, 2), fault(api.ErrLoop, 1)},
			{"twice", of(3, 0, 1, 1, 2, 0, 1), fault(api.ErrTwice, 2)},
			{"twice, the other way round", of(3, 0, 1, 1, 0), fault(api.ErrTwice, 1)},
			{"the first of two", of(3, 0, 1, 2, 2, 0, 1, 0, 7), fault(api.ErrLoop, 1)},
			{"wrong and greater than a call takes", of(c.limit+1, 0, 1, 1, 0), fault(api.ErrTwice, 1)},
			{"wrong, and two components", of(30, 0, 1, 2, 2), fault(api.ErrLoop, 1)},
		} {
			if c.limit == api.MaxNodes && w.g.N == c.limit+1 {
				w.want = fault(api.ErrMany, 0)
			}
			got, f := c.ask(w.g)
			wantFault(t, c.name+" of "+w.name, got, f, w.want)
		}
	}
}

func TestTooManyNodes(t *testing.T) {
	for _, c := range calls() {
		for _, g := range []api.Graph{of(c.limit + 1), path(c.limit + 1), of(api.MaxNodes), path(api.MaxNodes), ring(api.MaxNodes), some(api.MaxNodes, api.MaxEdges), of(api.MaxNodes + 1)} {
			got, f := c.ask(g)
			if g.N > c.limit {
				wantFault(t, c.name, got, f, fault(api.ErrMany, 0))
			} else if f.Code == api.ErrMany {
				t.Errorf("%s of %d nodes: %v", c.name, g.N, f)
			}
		}
		for _, g := range []api.Graph{path(c.limit), ring(c.limit)} {
			if got, f := c.ask(g); f != (api.Fault{}) || len(got.list) == 0 {
				t.Errorf("%s of %d nodes: %v %v", c.name, g.N, got, f)
			}
		}
	}
}
