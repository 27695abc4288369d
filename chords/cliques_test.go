package chords_test

import (
	"fmt"
	"slices"
	"testing"

	"arbor/api"
	"arbor/chords"
)

func wantCliques(t *testing.T, name string, g api.Graph, want [][]int) {
	t.Helper()
	got, f := chords.Cliques(g)
	if f != (api.Fault{}) || fmt.Sprint(got) != fmt.Sprint(want) {
		t.Errorf("Cliques of %s %v: %v %v, want %v", name, g, got, f, want)
	}
}

func upTo(n int) []int {
	l := []int{}
	for v := range n {
		l = append(l, v)
	}
	return l
}

func eachOf(nodes []int) [][]int {
	var lists [][]int
	for _, v := range nodes {
		lists = append(lists, []int{v})
	}
	return lists
}

func TestCliquesByHand(t *testing.T) {
	for _, c := range []struct {
		name string
		g    api.Graph
		want [][]int
	}{
		{"no nodes", of(0), nil}, {"a node", of(1), eachOf(upTo(1))}, {"nodes", of(24), eachOf(upTo(24))}, {"an edge", of(2, 1, 0), [][]int{{0, 1}}}, {"an edge and a node", of(3, 2, 0), [][]int{{0, 2}, {1}}},
		{"three nodes and one", of(4, 0, 1, 1, 2, 0, 2), [][]int{{0, 1, 2}, {3}}}, {"a path", of(4, 3, 1, 1, 2, 2, 0), [][]int{{0, 2}, {1, 2}, {1, 3}}}, {"ring of four", ring(4), [][]int{{0, 1}, {0, 3}, {1, 2}, {2, 3}}},
		{"all", full(24), [][]int{upTo(24)}}, {"all but one", without(full(24), 0, 23), [][]int{upTo(23), upTo(24)[1:]}},
		{"numbers, not texts", with(of(12), 0, 10, 0, 2, 2, 11, 1, 9), [][]int{{0, 2}, {0, 10}, {1, 9}, {2, 11}, {3}, {4}, {5}, {6}, {7}, {8}}},
		{"a greater one is not ahead", of(5, 0, 4, 0, 1, 1, 2, 0, 2, 3, 4), [][]int{{0, 1, 2}, {0, 4}, {3, 4}}}, {"entries, not lengths", of(5, 0, 1, 1, 2, 2, 3, 1, 3, 3, 4, 2, 4), [][]int{{0, 1}, {1, 2, 3}, {2, 3, 4}}},
		{"two full sets", nextTo(full(12), full(12)), [][]int{upTo(12), upTo(24)[12:]}},
	} {
		wantCliques(t, c.name, c.g, c.want)
		wantCliques(t, c.name, scrambled(c.g), c.want)
	}
}

func TestCliquesOfAllSmallGraphs(t *testing.T) {
	for n := range 7 {
		for _, g := range small(n) {
			wantCliques(t, "a graph", g, allCliques(g))
		}
	}
}

func TestCliquesOfMixedGraphs(t *testing.T) {
	all := []api.Graph{petersen(), grid(4, 6), shuffled(grid(3, 8), 3), ring(24), path(24), star(24), sides(12, 12), shuffled(legs(3, 7), 1), row(5, 4), joined(of(12), ring(12))}
	for seed := range 200 {
		all = append(all, mixed(7+seed%18, 5+seed, seed), grown(24-seed%5, 1+seed%9, seed))
	}
	for _, g := range all {
		wantCliques(t, "a graph", g, allCliques(g))
	}
}

// Graphs with as many whole cliques as can be, and near to that: each call must end soon.
func TestCliquesWhereThereAreMany(t *testing.T) {
	for _, c := range []struct{ many, size, want int }{{8, 3, 6561}, {12, 2, 4096}, {6, 4, 4096}, {4, 6, 1296}, {2, 12, 144}, {1, 24, 24}, {24, 1, 1}} {
		for seed := range 3 {
			g := shuffled(groups(c.many, c.size), seed)
			got, f := chords.Cliques(g)
			if f != (api.Fault{}) || len(got) != c.want || !areWholeCliques(g, got) {
				t.Errorf("Cliques of %d sets of %d nodes: %d lists, %v, want %d", c.many, c.size, len(got), f, c.want)
			}
		}
	}
	for step := 1; step < 12; step++ {
		g := sifted(24, func(u, v int) bool { return v-u != step && v-u != 24-step })
		if got, f := chords.Cliques(g); f != (api.Fault{}) || !areWholeCliques(g, got) {
			t.Errorf("Cliques of %v: %v %v", g, got, f)
		}
	}
	for seed := range 20 {
		g := other(mixed(24, 10+seed*3, seed))
		if got, f := chords.Cliques(g); f != (api.Fault{}) || !areWholeCliques(g, got) {
			t.Errorf("Cliques of %v: %v %v", g, got, f)
		}
	}
}

// areWholeCliques tells whether these are cliques, rising, to which no node could come, in the order of lists; not whether they are all.
func areWholeCliques(g api.Graph, lists [][]int) bool {
	near := table(g)
	for i, clique := range lists {
		if i > 0 && slices.Compare(lists[i-1], clique) >= 0 || !slices.IsSorted(clique) || !areNodes(g, clique) {
			return false
		}
		for v := range g.N {
			isNearAll := !slices.ContainsFunc(clique, func(u int) bool { return u != v && !near[u][v] })
			if isNearAll != slices.Contains(clique, v) {
				return false
			}
		}
	}
	return len(lists) > 0
}
