package width_test

import (
	"slices"
	"testing"

	"arbor/api"
	"arbor/chords"
	"arbor/flow"
	"arbor/parts"
	"arbor/width"
)

// wantHeaviest: nodes that rise, no two with an edge, of that weight together.
func wantHeaviest(t *testing.T, name string, g api.Graph, weights []int, over tree, want int) {
	t.Helper()
	total, nodes, f := width.Heaviest(g, weights, over.bags, over.up)
	if f != (api.Fault{}) || total != want {
		t.Errorf("Heaviest of %s %v, weights %v, over %v %v: %d %v %v, want %d", name, g, weights, over.bags, over.up, total, nodes, f, want)
		return
	}
	near := table(g)
	sum := 0
	for i, v := range nodes {
		if v < 0 || v >= g.N || i > 0 && nodes[i-1] >= v {
			t.Fatalf("Heaviest of %s %v: %v", name, g, nodes)
		}
		sum += weights[v]
		if slices.ContainsFunc(nodes, func(u int) bool { return near[u][v] }) {
			t.Errorf("Heaviest of %s %v: %v has an edge at %d", name, g, nodes, v)
		}
	}
	if sum != total {
		t.Errorf("Heaviest of %s %v, weights %v: %d, but %v weighs %d", name, g, weights, total, nodes, sum)
	}
}

// same is so many weights, all alike.
func same(many, weight int) []int { return slices.Repeat([]int{weight}, many) }

func TestHeaviestByHand(t *testing.T) {
	most := api.MaxValue
	for _, c := range []struct {
		name    string
		g       api.Graph
		weights []int
		over    tree
		want    int
	}{
		{"no nodes, no bags", of(0), nil, tree{}, 0},
		{"no nodes, a bag", of(0), nil, inARow(nil), 0},
		{"a node", of(1), []int{7}, inARow([]int{0}), 7},
		{"a node without weight", of(1), []int{0}, inARow([]int{0}), 0},
		{"a node below 0", of(1), []int{-7}, inARow([]int{0}), 0},
		{"a node in three bags", of(1), []int{7}, inARow([]int{0}, []int{0}, []int{0}), 7},
		{"a node below an empty bag", of(1), []int{7}, inARow(nil, []int{0}), 7},
		{"nodes", of(3), []int{1, -2, 4}, inARow([]int{2, 1, 0}), 5},
		{"nodes apart", of(3), []int{1, -2, 4}, inARow([]int{2}, []int{1}, []int{0}), 5},
		{"an edge", of(2, 1, 0), []int{3, 4}, inARow([]int{0, 1}), 4},
		{"an edge, both below 0", of(2, 1, 0), []int{-3, -4}, inARow([]int{0, 1}), 0},
		{"a path, the ends", path(3), []int{3, 5, 3}, window(3, 2), 6},
		{"a path, the middle", path(3), []int{3, 7, 3}, window(3, 2), 7},
		{"a path, each other one would be less", path(4), []int{9, 1, 1, 9}, window(4, 2), 18},
		{"a path, ends below 0", path(3), []int{-3, -5, -3}, window(3, 2), 0},
		{"a ring of four", ring(4), []int{1, 5, 1, 5}, tree{[][]int{{0, 1, 2}, {0, 2, 3}}, []int{1, -1}}, 10},
		{"a ring of four, the others", ring(4), []int{6, 5, 5, 5}, tree{[][]int{{0, 1, 2}, {0, 2, 3}}, []int{1, -1}}, 11},
		{"a ring of five", ring(5), same(5, 1), tree{[][]int{{0, 1, 2}, {0, 2, 3}, {0, 3, 4}}, []int{1, 2, -1}}, 2},
		{"a star's leaves", star(4), []int{5, 2, 2, 2}, tree{[][]int{{0, 1}, {2, 0}, {3, 0}}, []int{2, 2, -1}}, 6},
		{"a star's middle", star(4), []int{7, 2, 2, 2}, tree{[][]int{{0, 1}, {2, 0}, {3, 0}}, []int{2, 2, -1}}, 7},
		{"all of twelve", full(12), upTo(12), inARow(upTo(12)), 11},
		{"the most", of(12), same(12, most), inARow(upTo(12)), 12 * most},
		{"the least", of(12), same(12, -most), inARow(upTo(12)), 0},
		{"Petersen's", petersen(), same(10, 1), leastOf(petersen()), 4},
	} {
		wantHeaviest(t, c.name, c.g, c.weights, c.over, c.want)
		for seed := range 5 {
			wantHeaviest(t, c.name+", turned", scrambled(c.g), c.weights, turned(c.over, seed), c.want)
		}
		if c.g.N <= api.MaxSmall && mostOf(c.g, c.weights) != c.want {
			t.Errorf("the second account of %s is not %d", c.name, c.want)
		}
	}
}

func TestHeaviestOfAllSmallGraphs(t *testing.T) {
	for n := range 6 {
		for seed, g := range small(n) {
			over := turned(leastOf(g), seed)
			for _, weights := range [][]int{same(n, 1), weighing(n, 3, seed), weighing(n, api.MaxValue, seed)} {
				want := mostOf(g, weights)
				wantHeaviest(t, "a graph", g, weights, over, want)
				wantHeaviest(t, "a graph in one bag", g, weights, inARow(upTo(n)), want)
			}
		}
	}
}

// All small trees of bags over which a graph lies.
func TestHeaviestOfAllSmallTrees(t *testing.T) {
	for seed, g := range small(3) {
		weights := weighing(3, 4, seed+7)
		want := mostOf(g, weights)
		for many := range 4 {
			eachTree(3, many, func(over tree) {
				if liesOver(g, over.bags, over.up) {
					wantHeaviest(t, "a graph", g, weights, over, want)
				} else if total, nodes, f := width.Heaviest(g, weights, over.bags, over.up); f != fault(api.ErrForm, 0) || total != 0 || len(nodes) > 0 {
					t.Errorf("Heaviest of %v over %v: %d %v %v", g, over, total, nodes, f)
				}
			})
		}
	}
}

func TestHeaviestOfMixedGraphs(t *testing.T) {
	for seed := range 300 {
		g := mixed(6+seed%7, seed%40, seed)
		weights := weighing(g.N, []int{1, 5, api.MaxValue}[seed%3], seed)
		want := mostOf(g, weights)
		wantHeaviest(t, "a graph", g, weights, leastOf(g), want)
		wantHeaviest(t, "a graph, turned", g, weights, turned(leastOf(g), seed), want)
		wantHeaviest(t, "a graph in one bag", g, weights, inARow(upTo(g.N)), want)
	}
}

func TestHeaviestOfWhatLiesOverBags(t *testing.T) {
	for seed := range 300 {
		n := 8 + seed%22
		over, g := lying(n, 2+seed%11, n+seed%30, 30+seed%71, seed)
		weights := weighing(n, []int{1, 5, api.MaxValue}[seed%3], seed)
		for v := range weights {
			weights[v] = max(weights[v], -weights[v]/(1+v%4))
		}
		wantHeaviest(t, "a graph", g, weights, over, mostByOne(g, weights))
	}
}

// Without holes there is a second account at the limits, too.
func TestHeaviestWithoutHolesAtTheLimits(t *testing.T) {
	for seed := range 40 {
		over, g := lying(100, 2+seed%9, 100, 100, seed)
		order, hole, _ := chords.Order(g)
		if len(hole) > 0 {
			t.Fatalf("%v has a hole %v", g, hole)
		}
		weights := weighing(100, []int{1, 9, api.MaxValue}[seed%3], seed)
		want := mostAlong(g, weights, order)
		wantHeaviest(t, "a graph without holes", g, weights, over, want)
		wantHeaviest(t, "a graph without holes, turned", g, weights, turned(over, seed+1), want)
	}
}

// mostOfSides: of a graph with two sides the heaviest nodes are all those above 0 but what a least cut takes.
func mostOfSides(g api.Graph, weights []int) int {
	sides, _, _ := parts.Sides(g)
	net := api.Net{N: g.N + 2}
	all := 0
	for v, weight := range weights {
		weight = max(0, weight)
		all += weight
		if sides[v] == 0 {
			net.Arcs = append(net.Arcs, api.Arc{From: g.N, To: v, Cap: weight})
		} else {
			net.Arcs = append(net.Arcs, api.Arc{From: v, To: g.N + 1, Cap: weight})
		}
	}
	for _, e := range g.Edges {
		u, v := e[0], e[1]
		if sides[u] == 1 {
			u, v = v, u
		}
		net.Arcs = append(net.Arcs, api.Arc{From: u, To: v, Cap: api.MaxValue})
	}
	cut, _, _, _ := flow.Most(net, g.N, g.N+1)
	return all - cut
}

func TestHeaviestWithTwoSidesAtTheLimits(t *testing.T) {
	for seed := range 12 {
		for _, c := range []struct {
			name string
			g    api.Graph
			over tree
		}{
			{"a path", path(98), window(98, 2)},
			{"a path over great bags", path(98), window(98, 12)},
			{"a ladder", grid(49, 2), window(98, 3)},
			{"a grid", grid(14, 7), window(98, 8)},
			{"a wide grid", grid(8, 11), window(88, 12)},
			{"a grid with all in the row of bags", grid(19, 5), window(95, 6)},
		} {
			weights := weighing(c.g.N, []int{1, 9, api.MaxValue}[seed%3], seed)
			for v := range weights {
				weights[v] = max(weights[v], -weights[v]/(1+v%5))
			}
			wantHeaviest(t, c.name, c.g, weights, turned(c.over, seed), mostOfSides(c.g, weights))
		}
	}
}

func TestHeaviestAtTheLimits(t *testing.T) {
	most := api.MaxValue
	twelve := window(100, 12)
	wantHeaviest(t, "no edges, all as heavy as may be", of(100), same(100, most), twelve, 100*most)
	wantHeaviest(t, "no edges, all as light as may be", of(100), same(100, -most), twelve, 0)
	wantHeaviest(t, "a path", path(100), same(100, most), twelve, 50*most)
	wantHeaviest(t, "a grid of ten", grid(10, 10), same(100, 1), window(100, 11), 50)
	wantHeaviest(t, "each within ten", over(window(100, 11), 100, 100, 1), same(100, most), window(100, 11), 10*most)
	first := upTo(12)
	wantHeaviest(t, "the same bag again and again", of(12), same(12, 3), inARow(slices.Repeat([][]int{first}, 100)...), 36)
	wantHeaviest(t, "the same bag below one", path(12), same(12, 3), tree{slices.Repeat([][]int{first}, 100), append([]int{-1}, same(99, 0)...)}, 18)
	var far tree
	for v := range 100 {
		far.bags, far.up = append(far.bags, []int{v}), append(far.up, 0)
	}
	far.up[0] = -1
	wantHeaviest(t, "each alone", of(100), same(100, most), far, 100*most)
}
