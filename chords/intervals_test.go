package chords_test

import (
	"testing"

	"arbor/api"
	"arbor/chords"
)

// wantIntervals: intervals that meet where there are edges, or ErrNone.
func wantIntervals(t *testing.T, name string, g api.Graph, areThere bool) {
	t.Helper()
	spans, f := chords.Intervals(g)
	if !areThere {
		wantFault(t, "Intervals of "+name, answer{pairs: spans}, f, fault(api.ErrNone, 0))
	} else if f != (api.Fault{}) || !areIntervals(g, spans) {
		t.Errorf("Intervals of %s %v: %v %v", name, g, spans, f)
	}
}

func TestIntervalsByHand(t *testing.T) {
	for _, c := range []struct {
		name     string
		g        api.Graph
		areThere bool
	}{
		{"no nodes", of(0), true}, {"a node", of(1), true}, {"nodes", of(12), true}, {"an edge", of(2, 1, 0), true}, {"an edge and nodes", of(12, 11, 0), true}, {"a path", path(12), true}, {"a star", star(12), true},
		{"all edges", full(12), true}, {"all but one", without(full(12), 3, 9), true}, {"all but two", without(full(12), 3, 9, 0, 4), false}, {"all but two at a node", without(full(12), 3, 9, 3, 4), true},
		{"ring of three", ring(3), true}, {"ring of four", ring(4), false}, {"ring of twelve", ring(12), false}, {"ring of five", ring(5), false}, {"a ring with chords from a node", joined(path(11), of(1)), true},
		{"three short legs", legs(3, 1), true}, {"three legs", legs(3, 2), false}, {"three longer legs", legs(3, 3), false}, {"two legs", legs(2, 5), true}, {"a path with hairs", combed(6), true}, {"a path with longer hairs", with(nextTo(path(5), path(2)), 2, 5), false},
		{"a net", of(6, 0, 1, 1, 2, 2, 0, 0, 3, 1, 4, 2, 5), false}, {"a sun", with(ring(6), 0, 2, 2, 4, 4, 0), false}, {"a sun without a ray", of(5, 0, 1, 1, 2, 2, 0, 0, 3, 1, 3, 1, 4, 2, 4), true},
		{"a fan with a hair", with(nextTo(joined(path(5), of(1)), of(1)), 5, 6), true}, {"a fan over inner nodes", with(nextTo(path(5), of(1)), 5, 1, 5, 2, 5, 3), true},
		{"a fan with a hair over inner nodes", with(nextTo(path(5), path(2)), 5, 1, 5, 2, 5, 3), false}, {"a fan with a hair over all but one", with(nextTo(path(5), path(2)), 5, 0, 5, 1, 5, 2, 5, 3), true},
		{"two full sets", nextTo(full(6), full(6)), true}, {"a row", row(3, 3), true}, {"a row with a leg", with(nextTo(row(3, 2), path(2)), 2, 7), true}, {"three legs and loose nodes", nextTo(of(5), legs(3, 2)), false},
		{"beside each other", nextTo(path(4), nextTo(star(4), full(4))), true}, {"a ring at the end", nextTo(path(8), ring(4)), false}, {"Petersen's", petersen(), false}, {"a middle and loose nodes", joined(of(1), of(11)), true},
		{"two middles and loose nodes", joined(of(2), of(10)), false}, {"two middles with an edge", joined(full(2), of(10)), true},
	} {
		wantIntervals(t, c.name, c.g, c.areThere)
		wantIntervals(t, c.name, scrambled(c.g), c.areThere)
		for seed := range 5 {
			wantIntervals(t, c.name, shuffled(c.g, seed), c.areThere)
		}
	}
}

// combed is a path of so many nodes, each of which has an edge with a node of its own.
func combed(n int) api.Graph {
	g := nextTo(path(n), of(n))
	for v := range n {
		g = with(g, v, n+v)
	}
	return g
}

func TestIntervalsOfAllSmallGraphs(t *testing.T) {
	for n := range 7 {
		for _, g := range small(n) {
			wantIntervals(t, "a graph", g, !hasHole(g) && !hasTriple(g))
		}
	}
	for n := range 6 {
		seen := meetings(n)
		for _, g := range small(n) {
			wantIntervals(t, "a graph", scrambled(g), seen[wordOf(g)] > 0)
		}
	}
}

func TestIntervalsOfMixedGraphs(t *testing.T) {
	for seed := range 300 {
		n := 7 + seed%6
		for _, g := range []api.Graph{mixed(n, 3+seed%70, seed), other(mixed(n, 3+seed%30, seed)), grown(n, 1+seed%5, seed), shuffled(nextTo(grown(n-2, 2, seed), of(2)), seed)} {
			wantIntervals(t, "a mixed graph", g, !hasHole(g) && !hasTriple(g))
		}
	}
}

func TestIntervalsOfIntervals(t *testing.T) {
	for seed := range 2000 {
		wantIntervals(t, "intervals", meeting(api.MaxSmall-seed%3, 4+seed%40, 1+seed%13, seed), true)
	}
}
