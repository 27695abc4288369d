package match_test

import (
	"testing"

	"arbor/api"
	"arbor/match"
)

// wantMatching: edges of g, in form, of which no two have a node together.
func wantMatching(t *testing.T, what string, g api.Graph, pairs [][2]int) {
	t.Helper()
	met := map[int]bool{}
	for i, e := range pairs {
		if e[0] >= e[1] || i > 0 && pairs[i-1][0] >= e[0] || !has(g, e[0], e[1]) || met[e[0]] || met[e[1]] {
			t.Errorf("%s of %v: %v is no matching in form", what, g, pairs)
			return
		}
		met[e[0]], met[e[1]] = true, true
	}
}

// wantNodes: nodes of g, rising.
func wantNodes(t *testing.T, what string, g api.Graph, nodes []int) {
	t.Helper()
	for i, v := range nodes {
		if v < 0 || v >= g.N || i > 0 && nodes[i-1] >= v {
			t.Errorf("%s of %v: %v are no nodes, rising", what, g, nodes)
			return
		}
	}
}

// wantMost: a matching, and a set that shows that it is a greatest one. It answers how many pairs there are.
func wantMost(t *testing.T, g api.Graph) int {
	t.Helper()
	pairs, set, f := match.Most(g)
	if f != (api.Fault{}) {
		t.Errorf("Most of %v: %v", g, f)
	}
	wantMatching(t, "Most", g, pairs)
	wantNodes(t, "Most", g, set)
	if g.N-2*len(pairs) != oddLeft(g, set)-len(set) {
		t.Errorf("Most of %v: %v, which %v does not show", g, pairs, set)
	}
	return len(pairs)
}

func TestMostByHand(t *testing.T) {
	for _, x := range []struct {
		name string
		g    api.Graph
		want int
	}{
		{"nothing", of(0), 0},
		{"a node", of(1), 0},
		{"two nodes", of(2), 0},
		{"an edge", of(2, 1, 0), 1},
		{"an edge and a node", of(3, 0, 1), 1},
		{"a ring of three", ring(3), 1},
		{"a ring of four", ring(4), 2},
		{"a ring of five", ring(5), 2},
		{"a star", star(4), 1},
		{"a path of six, its middle first", of(6, 2, 3, 1, 2, 3, 4, 0, 1, 4, 5), 3},
		{"two triangles and a bridge", chain(2, ring(3)), 3},
		{"two triangles at a node", of(5, 0, 1, 1, 2, 2, 0, 2, 3, 3, 4, 4, 2), 2},
		{"a ring of five on a stem, with a leaf far off", of(8, 0, 1, 1, 2, 2, 3, 3, 4, 4, 5, 5, 6, 6, 2, 4, 7), 4},
		{"Petersen's graph", petersen(), 5},
		{"three triangles round a node", of(10, 0, 1, 1, 2, 2, 3, 3, 1, 0, 4, 4, 5, 5, 6, 6, 4, 0, 7, 7, 8, 8, 9, 9, 7), 4},
		{"all edges of seven", full(7), 3},
		{"two sides", twoSides(3, 5), 3},
		{"a grid", grid(3, 5), 7},
		{"a wheel", wheel(5), 3},
		{"a wheel of seven", wheel(6), 3},
	} {
		for _, g := range []api.Graph{x.g, scrambled(x.g)} {
			if got := wantMost(t, g); got != x.want {
				t.Errorf("Most, %s: %d pairs, want %d", x.name, got, x.want)
			}
		}
	}
}

// Where there is but one set that shows it.
func TestMostSets(t *testing.T) {
	for _, x := range []struct {
		name string
		g    api.Graph
		want string
	}{
		{"a ring of five", ring(5), "[]"},
		{"a star", star(5), "[0]"},
		{"the middle last", of(4, 3, 2, 0, 3, 1, 3), "[3]"},
		{"two stars", beside(star(4), turned(star(5), 2)), "[0 6]"},
		{"two sides", twoSides(6, 2), "[6 7]"},
		{"a star of MaxNodes", turned(star(api.MaxNodes), 37), "[2]"},
	} {
		for _, g := range []api.Graph{x.g, scrambled(x.g)} {
			_, set, f := match.Most(g)
			same(t, "the set of Most, "+x.name, set, x.want, f)
		}
	}
}

func TestMostOfAllSmallGraphs(t *testing.T) {
	for _, g := range small(6) {
		wantMost(t, g)
		wantMost(t, scrambled(g))
	}
	for _, g := range small(5) {
		if got, want := wantMost(t, g), accountOf(g).most; got != want {
			t.Errorf("Most of %v: %d pairs, want %d", g, got, want)
		}
	}
}

func TestMostOfGreaterGraphs(t *testing.T) {
	for _, g := range append(medium(), great()...) {
		number := wantMost(t, g)
		if other := wantMost(t, scrambled(g)); other != number {
			t.Errorf("Most of %v: %d pairs, then %d", g, number, other)
		}
	}
	for seed := range 2000 {
		wantMost(t, mixed(15+seed%30, 12+seed%77, seed))
	}
}

func TestMostAtTheLimits(t *testing.T) {
	for _, x := range []struct {
		name string
		g    api.Graph
		want int
	}{
		{"MaxNodes alone", of(api.MaxNodes), 0},
		{"a path", turned(path(api.MaxNodes), 37), 50},
		{"a ring", ring(api.MaxNodes), 50},
		{"an odd ring", ring(api.MaxNodes - 1), 49},
		{"a star", turned(star(api.MaxNodes), 37), 1},
		{"two sides", twoSides(10, 90), 10},
		{"all edges of 45", full(45), 22},
		{"MaxEdges", some(api.MaxNodes, api.MaxEdges), 11},
		{"a grid", turned(grid(10, 10), 37), 50},
		{"triangles in a chain", chain(33, ring(3)), 49},
		{"rings of five in a chain", chain(20, ring(5)), 50},
	} {
		if got := wantMost(t, x.g); got != x.want {
			t.Errorf("Most, %s: %d pairs, want %d", x.name, got, x.want)
		}
	}
}
