package poly_test

import (
	"slices"
	"strconv"
	"testing"

	"arbor/api"
	"arbor/colour"
	"arbor/graph"
	"arbor/match"
	"arbor/poly"
)

type ofSizes func(g api.Graph) ([]int, api.Fault)

func wantSizes(t *testing.T, name string, ask ofSizes, g api.Graph, want []int) {
	t.Helper()
	if list, f := ask(g); f != (api.Fault{}) || !slices.Equal(list, want) {
		t.Errorf("%s %v: %v %v, want %v", name, g, list, f, want)
	}
}

func factorial(n int) int {
	out := 1
	for i := range n {
		out *= i + 1
	}
	return out
}

func choose(n, k int) int {
	if k > n {
		return 0
	}
	return factorial(n) / factorial(k) / factorial(n-k)
}

// upToSize has what many tells of 0, 1, .. as long as it is something.
func upToSize(many func(size int) int) []int {
	var out []int
	for size := 0; many(size) != 0; size++ {
		out = append(out, many(size))
	}
	return out
}

func TestMatchingsByHand(t *testing.T) {
	for _, c := range []struct {
		name string
		g    api.Graph
		want []int
	}{
		{"no nodes", of(0), []int{1}}, {"a node", of(1), []int{1}}, {"nodes", of(12), []int{1}}, {"an edge", of(2, 1, 0), []int{1, 1}}, {"the last edge", of(12, 11, 10), []int{1, 1}},
		{"a path", path(3), []int{1, 2}}, {"a path of four", path(4), []int{1, 3, 1}}, {"a triangle", full(3), []int{1, 3}}, {"a ring of four", ring(4), []int{1, 4, 2}}, {"a ring of five", ring(5), []int{1, 5, 5}},
		{"a star", star(12), []int{1, 11}}, {"all four", full(4), []int{1, 6, 3}}, {"all twelve", full(12), []int{1, 66, 1485, 13860, 51975, 62370, 10395}}, {"all eleven", full(11), []int{1, 55, 990, 6930, 17325, 10395}},
		{"Petersen's", petersen(), []int{1, 15, 75, 145, 90, 6}}, {"three and three", groups(3, 3), []int{1, 9, 18, 6}}, {"six and six", groups(6, 6), []int{1, 36, 450, 2400, 5400, 4320, 720}},
		{"two edges", of(12, 3, 0, 11, 7), []int{1, 2, 1}}, {"six edges", of(12, 0, 1, 2, 3, 4, 5, 6, 7, 8, 9, 10, 11), []int{1, 6, 15, 20, 15, 6, 1}},
	} {
		wantSizes(t, "Matchings of "+c.name, poly.Matchings, c.g, c.want)
		wantSizes(t, "Matchings of "+c.name+", shuffled", poly.Matchings, shuffled(c.g, 2), c.want)
	}
}

func TestLooseByHand(t *testing.T) {
	for _, c := range []struct {
		name string
		g    api.Graph
		want []int
	}{
		{"no nodes", of(0), []int{1}}, {"a node", of(1), []int{1, 1}}, {"two nodes", of(2), []int{1, 2, 1}}, {"an edge", of(2, 1, 0), []int{1, 2}}, {"an edge and a node", of(3, 2, 0), []int{1, 3, 2}},
		{"a path", path(3), []int{1, 3, 1}}, {"a triangle", full(3), []int{1, 3}}, {"a ring of four", ring(4), []int{1, 4, 2}}, {"a ring of five", ring(5), []int{1, 5, 5}},
		{"a star of four", star(4), []int{1, 4, 3, 1}}, {"all twelve", full(12), []int{1, 12}}, {"all but one", without(full(12), 0, 11), []int{1, 12, 1}}, {"Petersen's", petersen(), []int{1, 10, 30, 30, 5}},
		{"twelve", of(12), []int{1, 12, 66, 220, 495, 792, 924, 792, 495, 220, 66, 12, 1}}, {"a cube", cube(3), []int{1, 8, 16, 8, 2}}, {"an icosahedron", icosahedron(), []int{1, 12, 36, 20}},
	} {
		wantSizes(t, "Loose of "+c.name, poly.Loose, c.g, c.want)
		wantSizes(t, "Loose of "+c.name+", shuffled", poly.Loose, shuffled(c.g, 2), c.want)
	}
}

// Numbers that are known of graphs of any size.
func TestSizesByFormulas(t *testing.T) {
	for n := 1; n <= api.MaxSmall; n++ {
		wantSizes(t, "Matchings of a path", poly.Matchings, path(n), upToSize(func(k int) int { return choose(max(0, n-k), k) }))
		wantSizes(t, "Loose of a path", poly.Loose, path(n), upToSize(func(k int) int { return choose(max(0, n-k+1), k) }))
		wantSizes(t, "Loose of nodes", poly.Loose, of(n), upToSize(func(k int) int { return choose(n, k) }))
		wantSizes(t, "Matchings of all edges", poly.Matchings, full(n), upToSize(func(k int) int {
			return choose(n, 2*k) * factorial(2*k) / factorial(k) >> k
		}))
		if n < 3 {
			continue
		}
		inRing := upToSize(func(k int) int { return choose(max(0, n-k), k) * n / max(1, n-k) })
		wantSizes(t, "Matchings of a ring", poly.Matchings, ring(n), inRing)
		wantSizes(t, "Loose of a ring", poly.Loose, ring(n), inRing)
		a := n / 2
		wantSizes(t, "Matchings of two sides", poly.Matchings, groups(a, n-a), upToSize(func(k int) int {
			return choose(a, k) * choose(n-a, k) * factorial(k)
		}))
	}
}

func TestSizesOfAllSmallGraphs(t *testing.T) {
	for n := range 6 {
		for _, g := range small(n) {
			wantSizes(t, "Matchings of", poly.Matchings, g, matchingsOf(g))
			wantSizes(t, "Matchings of", poly.Matchings, scrambled(g), matchingsOf(g))
			wantSizes(t, "Loose of", poly.Loose, g, looseOf(g))
			wantSizes(t, "Loose of", poly.Loose, scrambled(g), looseOf(g))
		}
	}
	for _, g := range small(6) {
		wantSizes(t, "Matchings of", poly.Matchings, g, matchingsByEdge(g.Edges))
		wantSizes(t, "Loose of", poly.Loose, g, looseOf(g))
	}
}

// fewNodes has graphs of which the calls but Tutte are to tell, of many kinds, up to the limits.
func fewNodes() []api.Graph {
	all := []api.Graph{petersen(), icosahedron(), cube(3), grid(3, 4), grid(2, 6), prism(6), prism(5), steps(12, 1, 6), steps(12, 2, 3), steps(11, 1, 2), steps(10, 1, 3), groups(4, 4, 4), groups(2, 2, 2, 2, 2, 2), groups(6, 6), groups(5, 7), groups(1, 11), wheel(12), hungAt(full(6), full(7)), nextTo(full(6), full(6)), nextTo(ring(5), ring(7)), nextTo(of(1), full(11)), nextTo(full(11), of(1)), hungAt(full(11), path(2)), path(12), ring(12), ring(11), of(12), full(9)}
	for seed := range 60 {
		all = append(all, mixed(6+seed%7, 15+seed, seed), mixed(12, 10+seed, seed))
	}
	return all
}

func TestSizesOfGreaterGraphs(t *testing.T) {
	for _, g := range fewNodes() {
		wantSizes(t, "Matchings of", poly.Matchings, g, matchingsByEdge(g.Edges))
		wantSizes(t, "Loose of", poly.Loose, g, looseOf(g))
	}
}

// The matchings are the sets of nodes without an edge of the line graph.
func TestMatchingsAreLooseInLineGraphs(t *testing.T) {
	for _, g := range append(fewNodes(), small(5)...) {
		line, _ := graph.Line(g)
		if line.N <= api.MaxSmall {
			want, _ := poly.Loose(line)
			wantSizes(t, "Matchings of", poly.Matchings, g, want)
		}
	}
}

func TestSizesAndOtherLayers(t *testing.T) {
	for _, g := range append(fewNodes(), small(5)...) {
		pairs, _, _ := match.Most(g)
		count, _ := match.Count(g)
		list, _ := poly.Matchings(g)
		if len(list) != len(pairs)+1 {
			t.Errorf("Matchings of %v: %v, want up to %d edges", g, list, len(pairs))
		} else if 2*len(pairs) == g.N && strconv.Itoa(list[len(pairs)]) != count {
			t.Errorf("Matchings of %v: %v, want %s at last", g, list, count)
		}
		other, _ := graph.Complement(g)
		clique, _ := colour.Clique(other)
		if list, _ := poly.Loose(g); len(list) != len(clique)+1 {
			t.Errorf("Loose of %v: %v, want up to %d nodes", g, list, len(clique))
		}
	}
}
