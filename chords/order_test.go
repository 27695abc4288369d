package chords_test

import (
	"testing"

	"arbor/api"
	"arbor/chords"
)

// wantOrder: an order and no hole, or a hole and no order.
func wantOrder(t *testing.T, name string, g api.Graph, isThere bool) {
	t.Helper()
	order, hole, f := chords.Order(g)
	switch {
	case f != (api.Fault{}):
		t.Errorf("Order of %s %v: %v", name, g, f)
	case isThere && (!isOrder(g, order) || len(hole) > 0):
		t.Errorf("Order of %s %v: %v and hole %v, want an order alone", name, g, order, hole)
	case !isThere && (!isHole(g, hole) || len(order) > 0):
		t.Errorf("Order of %s %v: %v and hole %v, want a hole alone", name, g, order, hole)
	}
}

func TestOrderByHand(t *testing.T) {
	for _, c := range []struct {
		name    string
		g       api.Graph
		isThere bool
	}{
		{"no nodes", of(0), true}, {"a node", of(1), true}, {"nodes", of(100), true}, {"an edge", of(2, 1, 0), true}, {"a path", path(100), true}, {"a star", star(100), true}, {"legs", legs(3, 2), true},
		{"ring of three", ring(3), true}, {"ring of four", ring(4), false}, {"ring of five", ring(5), false}, {"ring of 100", ring(100), false}, {"ring of four with a chord", with(ring(4), 0, 2), true},
		{"ring of five with a chord", with(ring(5), 0, 2), false}, {"ring of five with two chords", with(ring(5), 0, 2, 0, 3), true}, {"ring of six with three chords", with(ring(6), 0, 2, 2, 4, 4, 0), true},
		{"ring of six with three other chords", with(ring(6), 0, 3, 1, 4, 2, 5), false}, {"all edges", full(45), true}, {"all but one", without(full(45), 0, 44), true}, {"all but two", without(full(45), 0, 44, 1, 43), false},
		{"all but two at a node", without(full(45), 0, 44, 0, 43), true}, {"a wheel", joined(ring(4), of(1)), false}, {"a fan", joined(path(40), of(1)), true}, {"a full set and loose nodes", joined(full(12), of(70)), true},
		{"two loose nodes and a full set", joined(of(2), full(40)), true}, {"two loose pairs", groups(2, 2), false}, {"Petersen's", petersen(), false}, {"a grid", grid(2, 2), false}, {"a ring far off", nextTo(path(96), ring(4)), false},
		{"a ring at the end of a path", with(nextTo(path(96), ring(4)), 95, 96), false}, {"a path at the end of a ring", with(nextTo(ring(4), path(96)), 3, 4), false},
		{"two rings and a path between them", with(nextTo(ring(5), nextTo(path(40), ring(5))), 0, 5, 44, 45), false}, {"a ring through full sets", beads(9, 9), false}, {"a row of full sets", row(11, 9), true},
	} {
		wantOrder(t, c.name, c.g, c.isThere)
		wantOrder(t, c.name, scrambled(c.g), c.isThere)
		wantOrder(t, c.name, shuffled(c.g, 11), c.isThere)
	}
}

// row has so many full sets of so many nodes and one, each of which shares its last node with the next one as its first one.
func row(many, size int) api.Graph {
	g := of(many*size + 1)
	for at := range many {
		for _, e := range full(size + 1).Edges {
			g = with(g, at*size+e[0], at*size+e[1])
		}
	}
	return g
}

// beads is a row whose last node has an edge with the first.
func beads(many, size int) api.Graph {
	g := row(many, size)
	return with(g, 0, g.N-1)
}

func TestOrderOfAllSmallGraphs(t *testing.T) {
	for n := range 7 {
		for _, g := range small(n) {
			wantOrder(t, "a graph", g, !hasHole(g))
		}
	}
	for n := range 6 {
		for _, g := range small(n) {
			wantOrder(t, "a graph", scrambled(g), hasOrder(g))
		}
	}
}

func TestOrderOfMixedGraphs(t *testing.T) {
	for seed := range 400 {
		g := mixed(7+seed%4, 5+seed%60, seed)
		wantOrder(t, "a mixed graph", g, !hasHole(g))
	}
}

func TestOrderOfGrownGraphs(t *testing.T) {
	for seed := range 60 {
		n := 100 - seed%50
		g := grown(n, 1+seed%10, seed)
		wantOrder(t, "a grown graph", g, true)
		wantOrder(t, "a grown graph and a ring", shuffled(nextTo(grown(n-10, 1+seed%10, seed), ring(4+seed%7)), seed), false)
		wantOrder(t, "intervals", shuffled(meeting(80, 200, 25, seed), seed), true)
	}
	for size := 4; size < 40; size++ {
		g := joined(path(size), of(1))
		wantOrder(t, "a fan", shuffled(g, size), true)
		wantOrder(t, "a fan with its ends together", shuffled(with(g, 0, size-1), size), false)
	}
}

// Either an order or a hole shows by itself that there is not the other one.
func TestOrderOfGreatGraphs(t *testing.T) {
	for _, g := range great() {
		order, hole, f := chords.Order(g)
		if f != (api.Fault{}) || isOrder(g, order) == isHole(g, hole) || len(order) > 0 && len(hole) > 0 {
			t.Errorf("Order of %v: %v and hole %v, %v", g, order, hole, f)
		}
	}
}
