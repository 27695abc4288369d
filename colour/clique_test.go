package colour_test

import (
	"slices"
	"testing"

	"arbor/api"
	"arbor/colour"
)

func wantClique(t *testing.T, name string, g api.Graph, want []int) {
	t.Helper()
	clique, f := colour.Clique(g)
	if !slices.Equal(clique, want) || f != (api.Fault{}) {
		t.Errorf("Clique of %s %v: %v %v, want %v", name, g, clique, f, want)
	}
}

func upTo(n int) []int {
	var l []int
	for v := range n {
		l = append(l, v)
	}
	return l
}

func TestCliqueByHand(t *testing.T) {
	for _, c := range []struct {
		name string
		g    api.Graph
		want []int
	}{
		{"no nodes", of(0), nil}, {"a node", of(1), []int{0}}, {"nodes", of(24), []int{0}}, {"an edge", of(24, 23, 22), []int{22, 23}}, {"two edges", of(24, 23, 22, 21, 3), []int{3, 21}},
		{"the second node less", of(5, 0, 4, 3, 0), []int{0, 3}}, {"two triangles", of(6, 0, 1, 4, 5, 3, 4, 3, 5, 1, 2, 0, 2), []int{0, 1, 2}},
		{"the last node less", of(5, 0, 1, 0, 2, 1, 2, 0, 3, 1, 3), []int{0, 1, 2}}, {"a greater one behind", nextTo(full(3), full(4)), []int{3, 4, 5, 6}},
		{"an edge ahead of a triangle", of(5, 0, 1, 2, 3, 2, 4, 4, 3), []int{2, 3, 4}}, {"Petersen's", petersen(), []int{0, 1}}, {"all", full(24), upTo(24)},
		{"all but one", without(full(24), 0, 23), upTo(23)}, {"all but the first", without(full(24), 0, 1), append([]int{0}, upTo(24)[2:]...)}, {"two sides", twoSides(12, 12), []int{0, 12}},
		{"no ring of three", grotzsch(), []int{0, 1}},
	} {
		wantClique(t, c.name, c.g, c.want)
	}
}

func TestCliqueOfAllSmallGraphs(t *testing.T) {
	for n := range 7 {
		for _, g := range small(n) {
			wantClique(t, "a graph", g, firstClique(g))
		}
	}
}

func TestCliqueOfGreaterGraphs(t *testing.T) {
	all := append(medium(), of(24), path(24), ring(24), grid(4, 6), turned(layers(4, 6), 5), wheelOf(24, 1, 2, 3, 5, 8), wheelOf(23, 1, 2, 3, 4, 5, 6), scrambled(nextTo(full(9), full(9))))
	for seed := range 60 {
		all = append(all, mixed(2*api.MaxSmall-seed%3, 20+seed*8, seed))
	}
	for _, g := range all {
		wantClique(t, "a graph", g, firstClique(g))
	}
}

// Graphs with as many greatest cliques as can be, and near to that: each call must end soon.
func TestCliqueWhereThereAreMany(t *testing.T) {
	for size := 2; size <= 6; size++ {
		g := full(24)
		var want []int
		for v := range 24 {
			if v%size == 0 {
				want = append(want, v)
			}
			for u := v/size*size + 0; u < v; u++ {
				g = without(g, u, v)
			}
		}
		wantClique(t, "sets without edges", g, want)
	}
	for step := 1; step < 12; step++ {
		g := full(24)
		for v := range 24 {
			g = without(g, v, (v+step)%24)
		}
		clique, f := colour.Clique(g)
		if !isClique(g, clique) || f != (api.Fault{}) {
			t.Errorf("Clique of %v: %v %v", g, clique, f)
		}
	}
}

func isClique(g api.Graph, nodes []int) bool {
	for i, v := range nodes {
		for _, u := range nodes[:i] {
			if !has(g, u, v) {
				return false
			}
		}
	}
	return len(nodes) > 0
}
