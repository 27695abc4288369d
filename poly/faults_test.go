package poly_test

import (
	"math"
	"testing"

	"arbor/api"
)

// wantFault: a fault, and beside it nothing.
func wantFault(t *testing.T, name string, c call, g api.Graph, want api.Fault) {
	t.Helper()
	if got, f := c.ask(g); f != want || !got.isEmpty() {
		t.Errorf("%s of %s: %v %v, want nothing and %v", c.name, name, got, f, want)
	}
	if f := faultOf(c, g); f != want {
		t.Errorf("the second account of %s of %s is %v, want %v", c.name, name, f, want)
	}
}

func TestFaultsOfGraphs(t *testing.T) {
	for _, w := range []struct {
		name string
		g    api.Graph
		want api.Fault
	}{
		{"fewer nodes than none", of(-1), fault(api.ErrMany, 0)},
		{"the least number of nodes", of(math.MinInt), fault(api.ErrMany, 0)},
		{"one node too many", of(api.MaxNodes + 1), fault(api.ErrMany, 0)},
		{"the greatest number of nodes", of(math.MaxInt), fault(api.ErrMany, 0)},
		{"one edge too many", some(api.MaxNodes, api.MaxEdges+1), fault(api.ErrMany, 0)},
		{"one edge too many, and it is wrong", with(some(api.MaxNodes, api.MaxEdges), 0, 0), fault(api.ErrMany, 0)},
		{"fewer nodes than none, and an edge", of(-1, 0, 0), fault(api.ErrMany, 0)},
		{"no node", of(3, 0, 1, 1, 3), fault(api.ErrRange, 1)},
		{"no node, of none", of(0, 0, 1), fault(api.ErrRange, 0)},
		{"below 0", of(3, 0, 1, 1, 2, -1, 2), fault(api.ErrRange, 2)},
		{"no node, twice", of(3, 5, 5), fault(api.ErrRange, 0)},
		{"a loop", of(3, 0, 1, 2, 2), fault(api.ErrLoop, 1)},
		{"twice", of(3, 0, 1, 1, 2, 0, 1), fault(api.ErrTwice, 2)},
		{"twice, the other way round", of(3, 0, 1, 1, 0), fault(api.ErrTwice, 1)},
		{"the first of two", of(3, 0, 1, 2, 2, 0, 1, 0, 7), fault(api.ErrLoop, 1)},
		{"wrong, and too many nodes and edges", with(full(13), 4, 4), fault(api.ErrLoop, 78)},
		{"wrong behind as many edges as may be", with(some(12, 12), 0, 12), fault(api.ErrRange, 12)},
		{"twice behind as many edges as may be", with(ring(12), 1, 0), fault(api.ErrTwice, 12)},
		{"wrong, and a node more than may be", of(13, 0, 13), fault(api.ErrRange, 0)},
		{"wrong at the limits", with(some(100, 999), 99, 99), fault(api.ErrLoop, 999)},
	} {
		for _, c := range calls() {
			wantFault(t, w.name, c, w.g, w.want)
		}
	}
}

func TestTooMany(t *testing.T) {
	for _, w := range []struct {
		name         string
		g            api.Graph
		edges, nodes bool // are there too many?
	}{
		{"nothing", of(0), false, false}, {"twelve nodes", of(12), false, false}, {"thirteen nodes", of(13), false, true}, {"a hundred nodes", of(100), false, true},
		{"twelve of both", ring(12), false, false}, {"thirteen of both", ring(13), true, true}, {"twelve nodes, thirteen edges", with(ring(12), 0, 6), true, false},
		{"thirteen nodes, twelve edges", path(13), false, true}, {"six nodes, twelve edges", groups(2, 2, 2), false, false}, {"six nodes, thirteen edges", with(groups(2, 2, 2), 0, 1), true, false},
		{"all twelve", full(12), true, false}, {"all thirteen", full(13), true, true}, {"Petersen's", petersen(), true, false}, {"the limits", some(100, 1000), true, true},
		{"a hundred nodes, twelve edges", nextTo(ring(12), of(88)), false, true}, {"a hundred nodes, thirteen edges", nextTo(of(87), ring(13)), true, true},
	} {
		for _, c := range calls() {
			tooMany := w.nodes
			if c.name == "Tutte" {
				tooMany = w.edges
			}
			if tooMany {
				wantFault(t, w.name, c, w.g, fault(api.ErrMany, 0))
				continue
			}
			if got, f := c.ask(w.g); f != (api.Fault{}) || c.name != "Rings" && got.isEmpty() {
				t.Errorf("%s of %s: %v %v, want no fault", c.name, w.name, got, f)
			}
		}
	}
}
