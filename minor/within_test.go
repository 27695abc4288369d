package minor_test

import (
	"slices"
	"testing"

	"arbor/api"
	"arbor/colour"
	"arbor/match"
	"arbor/minor"
	"arbor/names"
	"arbor/poly"
)

// wantWithin: just this list, or, if there is none, nothing.
func wantWithin(t *testing.T, name string, g, h api.Graph, want []int, wantOk bool) {
	t.Helper()
	to, ok, f := minor.Within(g, h)
	if ok != wantOk || f != (api.Fault{}) || !slices.Equal(to, want) {
		t.Errorf("Within, %s, of %v and %v: %v %v %v, want %v %v", name, g, h, to, ok, f, want, wantOk)
	}
}

func wantAccount(t *testing.T, name string, g, h api.Graph) bool {
	t.Helper()
	want, ok := leastWithin(g, h)
	wantWithin(t, name, g, h, want, ok)
	return ok
}

func TestWithinByHand(t *testing.T) {
	for _, c := range []struct {
		name string
		g, h api.Graph
		want []int // none: it is not within
	}{
		{"a node in a node", of(1), of(1), []int{0}}, {"a node in nothing", of(0), of(1), nil}, {"two nodes in a node", of(1), of(2), nil}, {"six nodes in ten", of(10), of(6), []int{0, 1, 2, 3, 4, 5}}, {"six nodes in ten with all edges", full(10), of(6), []int{0, 1, 2, 3, 4, 5}}, {"six nodes in five", full(5), of(6), nil},
		{"an edge", of(2, 1, 0), of(2, 0, 1), []int{0, 1}}, {"an edge in two nodes", of(2), of(2, 0, 1), nil}, {"two nodes in an edge", of(2, 0, 1), of(2), []int{0, 1}}, {"the last edge", of(10, 9, 8), of(2, 0, 1), []int{8, 9}}, {"an edge from the second node on", of(10, 9, 8), of(3, 2, 1), []int{0, 8, 9}}, {"an edge with a node between", of(10, 9, 8), of(3, 0, 2), []int{8, 0, 9}},
		{"a path", of(5, 4, 3, 3, 2), of(3, 0, 1, 1, 2), []int{2, 3, 4}}, {"a path from the middle on", of(5, 4, 3, 3, 2), of(3, 0, 1, 0, 2), []int{3, 2, 4}}, {"a path in a ring", ring(5), path(5), []int{0, 1, 2, 3, 4}}, {"a path from its end on", of(4, 3, 0, 0, 2, 2, 1), path(4), []int{1, 2, 0, 3}},
		{"a triangle in a ring of five", ring(5), full(3), nil}, {"a ring of five in one of ten", ring(10), ring(5), nil}, {"a ring of six in five and five", groups(5, 5), ring(6), []int{0, 5, 1, 6, 2, 7}}, {"a ring of five in two sides", groups(5, 5), ring(5), nil},
		{"a ring in what has chords", full(10), ring(6), []int{0, 1, 2, 3, 4, 5}}, {"a star", of(10, 9, 1, 9, 2, 9, 3, 9, 4, 9, 8), star(6), []int{9, 1, 2, 3, 4, 8}}, {"a star of too many leaves", of(10, 9, 1, 9, 2, 9, 3, 9, 4), star(6), nil}, {"a star with its middle last", of(10, 9, 1, 9, 2, 9, 3, 9, 4, 9, 8), of(6, 5, 0, 5, 1, 5, 2, 5, 3, 5, 4), []int{1, 2, 3, 4, 8, 9}},
		{"all six", full(10), full(6), []int{0, 1, 2, 3, 4, 5}}, {"the last six", nextTo(of(4), full(6)), full(6), []int{4, 5, 6, 7, 8, 9}}, {"all six but an edge", nextTo(of(4), withoutAt(full(6), 0)), full(6), nil}, {"six in five pairs", groups(2, 2, 2, 2, 2), full(6), nil}, {"five in five pairs", groups(2, 2, 2, 2, 2), full(5), []int{0, 2, 4, 6, 8}},
		{"a ring of five in Petersen's", petersen(), ring(5), []int{0, 1, 2, 3, 4}}, {"a ring of six in Petersen's", petersen(), ring(6), []int{0, 1, 2, 3, 8, 5}}, {"a ring of four in Petersen's", petersen(), ring(4), nil}, {"a star of three leaves in Petersen's", petersen(), star(4), []int{0, 1, 4, 5}},
		{"three edges", ring(6), of(6, 0, 1, 2, 3, 4, 5), []int{0, 1, 2, 3, 4, 5}}, {"three edges across", ring(6), of(6, 0, 3, 1, 4, 2, 5), []int{0, 1, 3, 5, 2, 4}}, {"three edges in a ring of five", ring(5), of(6, 0, 1, 2, 3, 4, 5), nil},
		{"what begins least goes on worse", of(6, 0, 5, 5, 1, 5, 2, 2, 3), of(4, 0, 1, 0, 2, 0, 3), []int{5, 0, 1, 2}}, {"the least begins with a leaf", of(6, 0, 5, 5, 1, 5, 2, 2, 3), path(4), []int{0, 5, 2, 3}}, {"not the nearest", of(6, 0, 1, 0, 5, 5, 4, 4, 3), path(4), []int{0, 5, 4, 3}},
	} {
		wantWithin(t, c.name, c.g, c.h, c.want, c.want != nil)
		wantWithin(t, c.name+", scrambled", scrambled(c.g), scrambled(c.h), c.want, c.want != nil)
		wantAccount(t, c.name+", as the second account says", c.g, c.h)
	}
}

func TestNothingIsWithinAll(t *testing.T) {
	for n := range 11 {
		for _, g := range []api.Graph{of(n), full(n), path(n)} {
			wantWithin(t, "nothing", g, of(0), nil, true)
			wantMinor(t, "nothing", g, of(0), true)
		}
	}
}

func TestWithinOfAllSmallGraphs(t *testing.T) {
	for n := range 6 {
		for m := range 5 {
			for _, g := range small(n) {
				for _, h := range small(m) {
					wantAccount(t, "small graphs", g, h)
				}
			}
		}
	}
}

func TestWithinOfMixedGraphs(t *testing.T) {
	in, out := 0, 0
	for seed := range 500 {
		g, h := mixed(6+seed%3, 20+seed%70, seed), mixed(3+seed%4, 10+seed%80, seed+5000)
		if wantAccount(t, "mixed graphs", g, h) {
			in++
		} else {
			out++
		}
	}
	for seed := range 90 {
		g, h := mixed(10, 25+seed%50, seed), drawn(6, 5+seed%8, seed+5000)
		if wantAccount(t, "as many nodes as may be", g, h) {
			in++
		} else {
			out++
		}
	}
	if in < 100 || out < 100 {
		t.Errorf("%d are within, and %d are not: too few of the one kind are tried", in, out)
	}
}

// What is within is a minor.
func TestWithinIsAMinor(t *testing.T) {
	for seed := range 300 {
		g, h := mixed(7+seed%4, 10+seed%60, seed), mixed(2+seed%5, 30+seed%50, seed+5000)
		if _, ok, _ := minor.Within(g, h); ok {
			wantMinor(t, "what is within", g, h, true)
		}
	}
}

// Paths, which are within if they are minors, and what other layers know.
func TestWithinAsOtherLayersKnow(t *testing.T) {
	within := func(g, h api.Graph) bool {
		_, ok, _ := minor.Within(g, h)
		return ok
	}
	for seed := range 300 {
		g := mixed(1+seed%10, 10+seed%60, seed)
		for n := 1; n <= 6; n++ {
			if got := within(g, path(n)); got != isIn(t, g, path(n)) {
				t.Errorf("a path of %d nodes in %v: within %v, a minor not so", n, g, got)
			}
		}
		clique, _ := colour.Clique(g)
		if len(clique) <= 6 {
			wantWithin(t, "a clique", g, full(len(clique)), clique, true)
		}
		if more := len(clique) + 1; more <= 6 {
			wantWithin(t, "more than a clique", g, full(more), nil, false)
		}
		pairs, _, _ := match.Most(g)
		for k, h := range []api.Graph{of(0), path(2), of(4, 0, 1, 2, 3), of(6, 0, 1, 2, 3, 4, 5)} {
			if got := within(g, h); got != (k <= len(pairs)) {
				t.Errorf("%d pairs in %v: %v", k, g, got)
			}
		}
	}
	for seed := range 200 {
		g, h := mixed(3+seed%4, 40+seed%50, seed), mixed(3+seed%4, 40+seed%50, seed+5000)
		if rings, _ := poly.Rings(g); within(g, ring(g.N)) != (rings > 0) {
			t.Errorf("a ring through all nodes of %v: %v, want %d", g, within(g, ring(g.N)), rings)
		}
		_, same, _ := names.Same(g, h)
		if got := within(g, h) && within(h, g); got != same {
			t.Errorf("%v within %v, and back: %v, want %v", g, h, got, same)
		}
		if !within(g, shuffled(g, seed)) {
			t.Errorf("%v is not within itself", g)
		}
	}
}
