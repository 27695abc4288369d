package flow_test

import (
	"fmt"
	"math"
	"slices"
	"testing"

	"arbor/api"
	"arbor/flow"
)

func TestTreeFaults(t *testing.T) {
	for _, x := range faultyGraphs() {
		for _, weights := range [][]int{nil, {-1}, slices.Repeat([]int{1}, len(x.g.Edges)), slices.Repeat([]int{-1}, len(x.g.Edges))} {
			got, f := askTree().ask(question{g: x.g, weights: weights})
			wantFault(t, "Tree, "+x.name, got, f, x.f)
		}
	}
	most := some(api.MaxNodes, api.MaxEdges)
	last := slices.Repeat([]int{api.MaxValue}, api.MaxEdges)
	last[api.MaxEdges-1]++
	for _, x := range []struct {
		name    string
		g       api.Graph
		weights []int
		f       api.Fault
	}{
		{"no weights", path(3), nil, fault(api.ErrSize, 0)},
		{"a weight too few", path(3), []int{1}, fault(api.ErrSize, 0)},
		{"a weight too many", path(3), []int{1, 2, 3}, fault(api.ErrSize, 0)},
		{"a weight, and no edge", of(2), []int{1}, fault(api.ErrSize, 0)},
		{"a weight, and no node", of(0), []int{1}, fault(api.ErrSize, 0)},
		{"size ahead of range", path(3), []int{-1}, fault(api.ErrSize, 0)},
		{"a weight too few of MaxEdges", most, last[1:], fault(api.ErrSize, 0)},
		{"below 0", path(3), []int{0, -1}, fault(api.ErrRange, 1)},
		{"above MaxValue", path(3), []int{api.MaxValue + 1, -1}, fault(api.ErrRange, 0)},
		{"the least", path(4), []int{0, math.MinInt, 1}, fault(api.ErrRange, 1)},
		{"the greatest", path(4), []int{0, 1, math.MaxInt}, fault(api.ErrRange, 2)},
		{"the last weight of MaxEdges", most, last, fault(api.ErrRange, api.MaxEdges-1)},
	} {
		got, f := askTree().ask(question{g: x.g, weights: x.weights})
		wantFault(t, "Tree, "+x.name, got, f, x.f)
	}
}

// treeOf asks for a tree, and looks whether one comes from each node up to 0. It answers how much the tree says can go between two nodes.
func treeOf(t *testing.T, g api.Graph, weights []int) func(u, v int) int {
	t.Helper()
	up, cut, f := flow.Tree(g, weights)
	if f != (api.Fault{}) || len(up) != g.N || len(cut) != g.N || up[0] != -1 || cut[0] != 0 {
		t.Fatalf("Tree of %v with %v: %v %v %v", g, weights, up, cut, f)
	}
	upward := func(v int) []int {
		way := []int{v}
		for v != 0 {
			v = up[v]
			if v < 0 || v >= g.N || slices.Contains(way, v) {
				t.Fatalf("Tree of %v with %v: %v: from %d one does not come to 0", g, weights, up, way[0])
			}
			way = append(way, v)
		}
		return way
	}
	for v := range g.N {
		upward(v)
	}
	return func(u, v int) int { return leastOnWay(upward, cut, u, v) }
}

// wantTree: for any two nodes the tree says what the account does.
func wantTree(t *testing.T, g api.Graph, weights []int, account func(n api.Net, u, v int) int) {
	t.Helper()
	says := treeOf(t, g, weights)
	for u := range g.N {
		for v := range u {
			if got, want := says(u, v), account(eitherWay(g, weights), u, v); got != want {
				t.Errorf("Tree of %v with %v: %d between %d and %d, want %d", g, weights, got, u, v, want)
			}
		}
	}
}

func TestTreeByHand(t *testing.T) {
	for _, x := range []struct {
		name    string
		g       api.Graph
		weights []int
		want    string // of all two nodes: 0-1, 0-2, 1-2, 0-3, ..
	}{
		{"an edge", of(2, 1, 0), []int{5}, "[5]"},
		{"two nodes alone", of(2), nil, "[0]"},
		{"an edge that holds nothing", of(2, 1, 0), []int{0}, "[0]"},
		{"a path", path(3), []int{4, 7}, "[4 4 7]"},
		{"a path, in another order", of(3, 2, 1, 0, 1), []int{7, 4}, "[4 4 7]"},
		{"a triangle", ring(3), []int{1, 2, 4}, "[3 5 3]"},
		{"a ring of four", ring(4), []int{1, 1, 1, 1}, "[2 2 2 2 2 2]"},
		{"an edge and nodes alone", of(4, 1, 3), []int{api.MaxValue}, "[0 0 0 0 1000000 0]"},
		{"two edges", of(4, 0, 1, 2, 3), []int{2, 3}, "[2 0 0 0 0 3]"},
		{"all edges of four", full(4), []int{1, 2, 3, 4, 5, 6}, "[6 6 10 6 10 12]"},
	} {
		says := treeOf(t, x.g, x.weights)
		var got []int
		for v := range x.g.N {
			for u := range v {
				got = append(got, says(u, v))
			}
		}
		if fmt.Sprint(got) != x.want {
			t.Errorf("Tree, %s: %v, want %s", x.name, got, x.want)
		}
	}
}

// Where there is but one answer.
func TestTreeLists(t *testing.T) {
	for _, x := range []struct {
		name    string
		g       api.Graph
		weights []int
		want    string
	}{
		{"no nodes", of(0), nil, "[] [] {0 0}"},
		{"a node", of(1), nil, "[-1] [0] {0 0}"},
		{"two nodes", of(2), []int{}, "[-1 0] [0 0] {0 0}"},
		{"an edge", of(2, 0, 1), []int{api.MaxValue}, "[-1 0] [0 1000000] {0 0}"},
	} {
		up, cut, f := flow.Tree(x.g, x.weights)
		if got := fmt.Sprint(up, cut, f); got != x.want {
			t.Errorf("Tree, %s: %s, want %s", x.name, got, x.want)
		}
	}
}

func TestTreeOfAllSmallGraphs(t *testing.T) {
	for n := 1; n < 6; n++ {
		for at, g := range small(n) {
			wantTree(t, g, slices.Repeat([]int{1}, len(g.Edges)), leastCut)
			wantTree(t, scrambled(g), mixedWeights(g, 6, at), leastCut)
		}
	}
}

func TestTreeOfMixedGraphs(t *testing.T) {
	for seed := range 300 {
		g := mixed(6+seed%3, 5+seed%30, seed)
		wantTree(t, g, mixedWeights(g, 1+seed%50, seed), leastCut)
	}
	for seed, g := range medium() {
		wantTree(t, g, mixedWeights(g, 1+seed*seed, seed), mostBetween)
	}
	for seed := range 20 {
		g := mixed(25, 30+10*seed, seed)
		wantTree(t, g, mixedWeights(g, api.MaxValue, seed), mostBetween)
	}
}

func TestTreeAtTheLimits(t *testing.T) {
	for seed, g := range great() {
		draw := drawFrom(seed)
		weights := mixedWeights(g, api.MaxValue, seed)
		says := treeOf(t, g, weights)
		for range 40 {
			u, v := draw(g.N), draw(g.N)
			if u == v {
				continue
			}
			if got, want := says(u, v), mostBetween(eitherWay(g, weights), u, v); got != want {
				t.Errorf("Tree of %v with %v: %d between %d and %d, want %d", g, weights, got, u, v, want)
			}
		}
	}
	even := slices.Repeat([]int{api.MaxValue}, 990)
	if got := treeOf(t, full(45), even)(44, 7); got != 44*api.MaxValue {
		t.Errorf("Tree of all edges of 45: %d", got)
	}
	if got := treeOf(t, star(api.MaxNodes), even[:99])(98, 99); got != api.MaxValue {
		t.Errorf("Tree of a star: %d", got)
	}
}
