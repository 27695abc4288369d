package chords_test

import (
	"fmt"
	"testing"

	"arbor/api"
	"arbor/chords"
)

// wantOrders: arcs that lead on, or ErrNone.
func wantOrders(t *testing.T, name string, g api.Graph, areThere bool) {
	t.Helper()
	arcs, f := chords.Orders(g)
	if !areThere {
		wantFault(t, fmt.Sprint("Orders of ", name, g), answer{pairs: arcs}, f, fault(api.ErrNone, 0))
	} else if f != (api.Fault{}) || !areOrders(g, arcs) {
		t.Errorf("Orders of %s %v: %v %v", name, g, arcs, f)
	}
}

func TestOrdersByHand(t *testing.T) {
	for _, c := range []struct {
		name     string
		g        api.Graph
		areThere bool
	}{
		{"no nodes", of(0), true}, {"a node", of(1), true}, {"nodes", of(100), true}, {"an edge", of(2, 1, 0), true}, {"a path", path(100), true}, {"a star", star(100), true}, {"legs", legs(3, 33), true},
		{"ring of three", ring(3), true}, {"ring of four", ring(4), true}, {"ring of five", ring(5), false}, {"ring of six", ring(6), true}, {"ring of 99", ring(99), false}, {"ring of 100", ring(100), true},
		{"ring of five with a chord", with(ring(5), 0, 2), true}, {"all edges", full(45), true}, {"all but one", without(full(45), 3, 20), true}, {"sets", groups(8, 3), true}, {"two sides", sides(25, 40), true}, {"a grid", grid(10, 10), true},
		{"Petersen's", petersen(), false}, {"a net", of(6, 0, 1, 1, 2, 2, 0, 0, 3, 1, 4, 2, 5), false}, {"a net without a hair", of(5, 0, 1, 1, 2, 2, 0, 0, 3, 1, 4), true}, {"no ring of five", other(ring(5)), false},
		{"no ring of six", other(ring(6)), false}, {"no ring of seven", other(ring(7)), false}, {"no ring of four", other(ring(4)), true}, {"no path", other(path(40)), true}, {"no legs", other(legs(3, 2)), false},
		{"a wheel of six", joined(ring(6), of(1)), true}, {"a wheel of five", joined(ring(5), of(1)), false}, {"two rings", nextTo(ring(50), ring(49)), false}, {"two even rings", nextTo(ring(50), ring(50)), true},
		{"a ring at the end", nextTo(full(40), ring(5)), false}, {"all edges to a ring", joined(full(30), ring(5)), false}, {"a row", row(2, 2), true}, {"a longer row", row(3, 2), true}, {"a row of greater sets", row(5, 9), true},
		{"a fan", joined(path(40), of(1)), true}, {"a row of rings", grid(2, 50), true}, {"a sun", with(ring(6), 0, 2, 2, 4, 4, 0), false},
	} {
		wantOrders(t, c.name, c.g, c.areThere)
		wantOrders(t, c.name, scrambled(c.g), c.areThere)
		wantOrders(t, c.name, shuffled(c.g, 13), c.areThere)
	}
}

func TestOrdersExamples(t *testing.T) {
	arcs, f := chords.Orders(ring(4))
	if s := fmt.Sprint(arcs, f); s != "[[0 1] [0 3] [2 1] [2 3]] {0 0}" && s != "[[1 0] [1 2] [3 0] [3 2]] {0 0}" {
		t.Errorf("Orders of a ring of four: %s", s)
	}
	arcs, f = chords.Orders(of(3, 2, 1, 1, 0))
	if s := fmt.Sprint(arcs, f); s != "[[0 1] [2 1]] {0 0}" && s != "[[1 0] [1 2]] {0 0}" {
		t.Errorf("Orders of a path: %s", s)
	}
}

func TestOrdersOfAllSmallGraphs(t *testing.T) {
	for n := range 7 {
		for _, g := range small(n) {
			wantOrders(t, "a graph", g, hasOrders(g))
		}
	}
	for n := range 6 {
		for _, g := range small(n) {
			wantOrders(t, "a graph", scrambled(g), hasOrders(g))
		}
	}
}

func TestOrdersOfMixedGraphs(t *testing.T) {
	for seed := range 300 {
		n := 7 + seed%3
		for _, g := range []api.Graph{mixed(n, 5+seed%50, seed), other(grown(n, 1+seed%4, seed)), other(mixed(n, seed%20, seed))} {
			wantOrders(t, "a mixed graph", g, hasOrders(g))
		}
	}
	for seed := range 200 {
		n := 10 + seed%36
		for _, g := range []api.Graph{mixed(n, n+seed%50, seed), other(grown(n, 1+seed%4, seed)), other(mixed(n, seed%20, seed))} {
			wantOrders(t, "a greater graph", g, !isForcedBothWays(g))
		}
	}
}

func TestOrdersOfOrders(t *testing.T) {
	for seed := range 150 {
		n := 5 + seed%41
		g := ordered(n, 1+seed%6, seed)
		wantOrders(t, "an order", g, true)
		wantOrders(t, "an order in an order", nested(ordered(3+seed%4, 2, seed), ordered(2+seed%5, 2, seed+1)), true)
		wantOrders(t, "an order, and a ring", nextTo(g, ring(5+seed%3*2)), false)
		wantOrders(t, "what does not meet", shuffled(other(meeting(40, 60, 20, seed)), seed), true)
	}
}

// nested has a copy of b in place of each node of a.
func nested(a, b api.Graph) api.Graph {
	nearA, nearB := table(a), table(b)
	return sifted(a.N*b.N, func(u, v int) bool {
		if u/b.N == v/b.N {
			return nearB[u%b.N][v%b.N]
		}
		return nearA[u/b.N][v/b.N]
	})
}

func TestOrdersOfGreatGraphs(t *testing.T) {
	for _, g := range great() {
		wantOrders(t, "a great graph", g, !isForcedBothWays(g))
	}
}
