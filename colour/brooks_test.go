package colour_test

import (
	"testing"

	"arbor/api"
	"arbor/colour"
)

// wantBrooks: a colouring with as many colours as a node has edges at most, or ErrKind where there need be none.
func wantBrooks(t *testing.T, g api.Graph) {
	t.Helper()
	colours, f := colour.Brooks(g)
	if !isBrooks(g) {
		wantFault(t, "Brooks", answer{list: colours}, f, fault(api.ErrKind, 0))
		return
	}
	if f != (api.Fault{}) || !isColouring(g, colours, mostEdges(g)) {
		t.Errorf("Brooks of %v: %v %v, want colours below %d", g, colours, f, mostEdges(g))
	}
}

func TestBrooksByHand(t *testing.T) {
	for _, c := range []struct {
		name string
		g    api.Graph
		most int // colours; 0: ErrKind
	}{
		{"no nodes", of(0), 0}, {"a node", of(1), 0}, {"two nodes", of(2), 0}, {"an edge", of(2, 1, 0), 0}, {"ring of three", ring(3), 0}, {"all four", full(4), 0}, {"all 45", full(45), 0},
		{"a path", path(3), 2}, {"a long path", path(100), 2}, {"ring of four", ring(4), 2}, {"ring of five", ring(5), 0}, {"ring of seven", turned(ring(7), 3), 0}, {"ring of 99", ring(99), 0},
		{"ring of 100", turned(ring(100), 37), 2}, {"two rings", nextTo(ring(4), ring(4)), 0}, {"a ring and a node", nextTo(petersen(), of(1)), 0}, {"a node and a path", nextTo(of(1), path(3)), 0},
		{"an odd ring with a chord", with(ring(5), 0, 2), 3}, {"an odd ring with a node", with(nextTo(ring(5), of(1)), 5, 0), 3}, {"Petersen's", petersen(), 3}, {"all but one", without(full(6), 0, 1), 5},
		{"all but two", without(full(6), 0, 1, 2, 3, 4, 5), 4}, {"a star", star(100), 99}, {"two sides", twoSides(3, 3), 3}, {"six nodes round", wheelOf(6, 1, 2), 4},
	} {
		colours, f := colour.Brooks(c.g)
		if c.most == 0 {
			wantFault(t, "Brooks of "+c.name, answer{list: colours}, f, fault(api.ErrKind, 0))
		} else if f != (api.Fault{}) || !isColouring(c.g, colours, c.most) {
			t.Errorf("Brooks of %s: %v %v, want colours below %d", c.name, colours, f, c.most)
		}
	}
}

func TestBrooksOfAllSmallGraphs(t *testing.T) {
	for n := range 7 {
		for _, g := range small(n) {
			wantBrooks(t, g)
		}
	}
}

// The builders must keep their word, or graphs of a kind would go untried.
func TestEvenGraphsAreEven(t *testing.T) {
	for i, g := range even() {
		many := edgesAt(g)
		for v := range many {
			if many[v] != many[0] || many[0] < 3 {
				t.Fatalf("graph %d: %v edges", i, many)
			}
		}
	}
}

func TestBrooksWhereAllNodesHaveAsManyEdges(t *testing.T) {
	for _, g := range even() {
		wantBrooks(t, g)
		wantBrooks(t, scrambled(g))
		if g.N < api.MaxNodes && len(g.Edges) < api.MaxEdges {
			wantBrooks(t, with(nextTo(g, of(1)), 0, g.N))
		}
		wantBrooks(t, api.Graph{N: g.N, Edges: g.Edges[1:]})
	}
	for seed := range 400 {
		n := 6 + seed%14
		many := 3 + seed%(n-4)
		wantBrooks(t, regular(n+n%2*(many%2), many, seed))
	}
}

func TestBrooksOfGreaterGraphs(t *testing.T) {
	all := append(medium(), great()...)
	for seed := range 300 {
		n := 7 + seed%20
		all = append(all, mixed(n, 2*n+seed%(2*n), seed))
	}
	for _, g := range all {
		wantBrooks(t, g)
	}
}
