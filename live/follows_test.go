package live_test

import (
	"fmt"
	"slices"
	"testing"

	"arbor/api"
	"arbor/codec"
	"arbor/graph"
	"arbor/live"
	"arbor/parts"
	"arbor/walks"
)

// mixedHouse has gone through a row of calls that nobody chose by hand.
func mixedHouse(seed int) *live.House {
	draw := drawFrom(seed)
	h := live.New()
	many := 2 + draw(40)
	for range 20 + draw(400) {
		s := drawStep(draw, manyNames(many), 10)
		take(h, s)
	}
	return h
}

// What a house tells is what the other layers tell of its graph.
func TestOtherLayersTellTheSame(t *testing.T) {
	houses := []*live.House{live.New(), greatest(t)}
	for seed := range 200 {
		houses = append(houses, mixedHouse(seed))
	}
	for number, h := range houses {
		g, names := h.Graph()
		form, f := graph.Form(g)
		if f != (api.Fault{}) || form.N != g.N || !slices.Equal(form.Edges, g.Edges) {
			t.Fatalf("house %d: %v, in form %v %v", number, g, form, f)
		}
		if len(names) != g.N {
			t.Fatalf("house %d: %d names of %d nodes", number, len(names), g.N)
		}
		pieces, f := parts.Components(g)
		if got := h.Parts(); f != (api.Fault{}) || got != len(pieces) {
			t.Errorf("house %d: %d parts, and components %v %v", number, got, pieces, f)
		}
		for v, a := range names {
			far, f := walks.Far(g, v)
			for u, b := range names {
				if is, bad := h.Joined(a, b); is != (far[u] >= 0) || f != bad {
					t.Errorf("house %d, Joined %s %s: %v %v, but %d steps %v", number, a, b, is, bad, far[u], f)
				}
			}
		}
	}
}

// A house that is built of what another one tells, tells the same.
func TestBuiltAgain(t *testing.T) {
	for seed := range 200 {
		h := mixedHouse(seed + 1000)
		g, names := h.Graph()
		text, f := codec.Print(g)
		read, bad := codec.Read(text)
		if f != (api.Fault{}) || bad != f {
			t.Fatalf("house %d: %v %v", seed, f, bad)
		}
		again := live.New()
		for _, name := range names {
			again.Node(name)
		}
		for _, e := range slices.Backward(read.Edges) {
			again.Edge(names[e[1]], names[e[0]])
		}
		wantTold(t, fmt.Sprint("house ", seed), again, tell(h))
	}
}

// Rows that end in the same graph tell the same, but for Undo.
func TestTheWayThereIsNotTold(t *testing.T) {
	want := "3 [a b c] [[0 1] [1 2]] [ab ac bc] 1"
	for _, text := range []string{
		"node a, node b, node c, edge a b, edge b c",
		"node a, node b, node c, edge c b, edge b a",
		"node a, node b, edge b a, node c, edge b c",
		"node a, node b, node c, edge a c, edge a b, cut c a, edge b c",
		"node a, node b, node c, edge a b, edge b c, edge a c, undo",
		"node a, node b, node c, edge a b, edge b c, cut a b, undo",
		"node a, node b, node c, edge a b, edge b c, cut a b, edge b a",
		"node a, node c, undo, node b, node c, node d, edge d a, undo, undo, edge b c, edge a b",
		"node c, undo, node a, node b, edge a b, cut a b, undo, node c, edge b c",
	} {
		wantTold(t, text, houseOf(t, text), want)
	}
}

// From the greatest house on, change by change, back to nothing.
func TestTakenBackChangeByChange(t *testing.T) {
	h := greatest(t)
	list := pairs(api.MaxEdges)
	for many := api.MaxEdges; many >= 0; many-- {
		g, names := h.Graph()
		want, f := graph.Form(api.Graph{N: api.MaxNodes, Edges: list[:many]})
		if f != (api.Fault{}) || len(names) != api.MaxNodes || g.N != want.N || !slices.Equal(g.Edges, want.Edges) {
			t.Fatalf("%d edges: %v %v, want %v %v", many, g, names, want, f)
		}
		takeAll(t, h, "undo")
	}
	for many := api.MaxNodes - 1; many > 0; many-- {
		if g, names := h.Graph(); g.N != many || len(g.Edges) != 0 || len(names) != many || h.Parts() != many {
			t.Fatalf("%d nodes: %v %v, %d parts", many, g, names, h.Parts())
		}
		takeAll(t, h, "undo")
	}
	wantFault(t, h, "undo", fault(api.ErrState, 0))
}

// Many more changes than there may be nodes or edges.
func TestManyChanges(t *testing.T) {
	h := houseOf(t, "node a, node b")
	const many = 100000
	for range many {
		if f := h.Edge("a", "b"); f != (api.Fault{}) {
			t.Fatal(f)
		}
		if f := h.Cut("b", "a"); f != (api.Fault{}) {
			t.Fatal(f)
		}
	}
	for i := range 2 * many {
		if f := h.Undo(); f != (api.Fault{}) || h.Parts() != 1+i%2 {
			t.Fatalf("undo %d: %v, %d parts", i, f, h.Parts())
		}
	}
	wantTold(t, "all edges and cuts taken back", h, "2 [a b] [] [] 2")
}
