package colour_test

import (
	"testing"

	"arbor/api"
	"arbor/colour"
)

// wantEdges: a colour for each edge in form, from 0 to the most edges of a node, and no colour twice at one node.
func wantEdges(t *testing.T, g api.Graph) {
	t.Helper()
	colours, f := colour.Edges(g)
	if len(colours) != len(g.Edges) || f != (api.Fault{}) {
		t.Fatalf("Edges of %v: %v %v", g, colours, f)
	}
	most := mostEdges(g)
	at := map[[2]int][2]int{}
	for i, e := range inForm(g) {
		if colours[i] < 0 || colours[i] > most {
			t.Fatalf("Edges of %v: %v: %v has %d, want at most %d", g, colours, e, colours[i], most)
		}
		for _, v := range e {
			if other, ok := at[[2]int{v, colours[i]}]; ok {
				t.Fatalf("Edges of %v: %v: %v and %v have %d", g, colours, other, e, colours[i])
			}
			at[[2]int{v, colours[i]}] = e
		}
	}
}

func TestEdgesByHand(t *testing.T) {
	for n := range 4 {
		colours, f := colour.Edges(of(n))
		if len(colours) != 0 || f != (api.Fault{}) {
			t.Errorf("Edges of %d nodes: %v %v", n, colours, f)
		}
	}
	// the first and the last edge in form have no node together, but those beside each other in this list do
	colours, f := colour.Edges(of(4, 3, 2, 2, 1, 1, 0))
	if len(colours) != 3 || colours[0] == colours[1] || colours[1] == colours[2] || f != (api.Fault{}) {
		t.Errorf("Edges of a path: %v %v", colours, f)
	}
	colours, _ = colour.Edges(of(5, 4, 3, 0, 2, 0, 1))
	if len(colours) != 3 || colours[0] == colours[1] {
		t.Errorf("Edges of a path and an edge, in form 0-1, 0-2, 3-4: %v", colours)
	}
}

func TestEdgesOfAllSmallGraphs(t *testing.T) {
	for n := range 7 {
		for _, g := range small(n) {
			wantEdges(t, g)
		}
	}
}

func TestEdgesOfGreaterGraphs(t *testing.T) {
	all := append(medium(), great()...)
	for _, g := range append(all, even()...) {
		wantEdges(t, g)
		wantEdges(t, scrambled(g))
	}
	for seed := range 1000 {
		n := 7 + seed%20
		wantEdges(t, mixed(n, n+seed%(3*n), seed))
	}
	for seed := range 300 {
		n := 7 + seed%12
		many := 3 + seed%(n-4)
		wantEdges(t, regular(n+n%2*(many%2), many, seed))
	}
	for n := range 46 {
		wantEdges(t, full(n))
	}
}
