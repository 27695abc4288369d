package minor_test

import (
	"math"
	"testing"

	"arbor/api"
)

type faulty struct {
	name string
	g    api.Graph
	want api.Fault
}

// wrong has graphs with what Check tells of them.
func wrong() []faulty {
	return []faulty{
		{"fewer nodes than none", of(-1), fault(api.ErrMany, 0)},
		{"the least number of nodes", of(math.MinInt), fault(api.ErrMany, 0)},
		{"more nodes than any graph has", of(api.MaxNodes + 1), fault(api.ErrMany, 0)},
		{"the greatest number of nodes", of(math.MaxInt, 0, 0), fault(api.ErrMany, 0)},
		{"more edges than any graph has", some(api.MaxNodes, api.MaxEdges+1), fault(api.ErrMany, 0)},
		{"more edges than any graph has, all the same", api.Graph{N: 3, Edges: make([][2]int, api.MaxEdges+1)}, fault(api.ErrMany, 0)},
		{"no node", of(3, 0, 1, 1, 3), fault(api.ErrRange, 1)},
		{"no node, of none", of(0, 0, 1), fault(api.ErrRange, 0)},
		{"below 0", of(3, 0, 1, 1, 2, -1, 2), fault(api.ErrRange, 2)},
		{"no node, twice the same", of(3, 0, 1, 5, 5), fault(api.ErrRange, 1)},
		{"a loop", of(3, 0, 1, 2, 2), fault(api.ErrLoop, 1)},
		{"twice", of(3, 0, 1, 1, 2, 0, 1), fault(api.ErrTwice, 2)},
		{"twice, the other way round", of(3, 0, 1, 1, 0), fault(api.ErrTwice, 1)},
		{"the first of several", of(3, 0, 1, 2, 2, 0, 1, 0, 7), fault(api.ErrLoop, 1)},
		{"no node, of six", with(full(6), 0, 6), fault(api.ErrRange, 15)},
		{"twice, of six", with(full(6), 5, 4), fault(api.ErrTwice, 15)},
		{"no node, of seven", of(7, 0, 1, 1, 7), fault(api.ErrRange, 1)},
		{"a loop, of ten", with(ring(10), 9, 9), fault(api.ErrLoop, 10)},
		{"twice, of ten", with(full(10), 9, 8), fault(api.ErrTwice, 45)},
		{"no node, of eleven", of(11, 0, 1, 1, 11), fault(api.ErrRange, 1)},
		{"a loop, of eleven", of(11, 10, 10), fault(api.ErrLoop, 0)},
		{"twice, of eleven", with(ring(11), 1, 0), fault(api.ErrTwice, 11)},
		{"a loop, at the limits", with(some(api.MaxNodes, api.MaxEdges-1), 99, 99), fault(api.ErrLoop, api.MaxEdges-1)},
	}
}

// right has graphs without fault of as many nodes as any graph may have, and of fewer.
func right() []api.Graph {
	return []api.Graph{of(0), of(1), ring(3), full(5), of(6), full(6), of(7), ring(7), of(10), full(10), of(11), path(11), of(12), full(12), of(13), of(99), of(100), some(api.MaxNodes, api.MaxEdges)}
}

// wantFault: a fault, and beside it nothing.
func wantFault(t *testing.T, name string, g, h api.Graph, want api.Fault) {
	t.Helper()
	for _, c := range calls() {
		if got, f := c.ask(g, h); f != want || !got.isEmpty() {
			t.Errorf("%s, %s: %v %v, want nothing and %v", c.name, name, got, f, want)
		}
	}
	if f := faultOf(g, h); f != want {
		t.Errorf("the second account of %s: %v, want %v", name, f, want)
	}
}

func TestWhatCheckSaysIsToldFirst(t *testing.T) {
	for _, w := range wrong() {
		for _, r := range right() {
			wantFault(t, "g: "+w.name, w.g, r, w.want)
			wantFault(t, "h: "+w.name, r, w.g, w.want)
		}
	}
}

func TestOfBothGIsToldFirst(t *testing.T) {
	for _, g := range wrong() {
		for _, h := range wrong() {
			wantFault(t, "g: "+g.name+", h: "+h.name, g.g, h.g, g.want)
		}
	}
}

func TestTooMany(t *testing.T) {
	for _, g := range right() {
		for _, h := range right() {
			if g.N > 10 || h.N > 6 {
				wantFault(t, "too many nodes", g, h, fault(api.ErrMany, 0))
				continue
			}
			for _, c := range calls() {
				if got, f := c.ask(g, h); f != (api.Fault{}) {
					t.Errorf("%s of %v and %v: %v %v, want no fault", c.name, g, h, got, f)
				}
			}
		}
	}
}

// The limit of g is its own, and the one of h, too: one does not make up for the other, nor do edges count.
func TestJustAsManyAsMayBe(t *testing.T) {
	if api.MaxSmall-2 != 10 {
		t.Fatalf("MaxSmall is %d", api.MaxSmall)
	}
	for n := range 101 {
		for m := range 101 {
			want := api.Fault{}
			if n > 10 || m > 6 {
				want = fault(api.ErrMany, 0)
			}
			for _, c := range calls() {
				got, f := c.ask(of(n), of(m))
				if f != want || got.ok != (want == api.Fault{} && m <= n) {
					t.Errorf("%s of %d and %d nodes: %v %v, want %v", c.name, n, m, got, f, want)
				}
			}
		}
	}
}
