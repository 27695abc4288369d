package trees_test

import (
	"fmt"
	"math"
	"slices"
	"testing"

	"arbor/api"
	"arbor/trees"
)

const most = api.MaxValue

func TestLeastByHand(t *testing.T) {
	for _, x := range []struct {
		name    string
		g       api.Graph
		weights []int
		want    string
	}{
		{"nothing", of(0), nil, "[] 0"},
		{"a node", of(1), nil, "[] 0"},
		{"nodes alone", of(4), []int{}, "[] 0"},
		{"an edge", of(2, 1, 0), []int{-7}, "[[0 1]] -7"},
		{"all alike", full(4), []int{5, 5, 5, 5, 5, 5}, "[[0 1] [0 2] [0 3]] 15"},
		{"all alike, in another order", of(3, 2, 1, 2, 0, 1, 0), []int{4, 4, 4}, "[[0 1] [0 2]] 8"},
		{"weights go with the list's order", of(3, 2, 1, 2, 0, 1, 0), []int{1, 2, 3}, "[[0 2] [1 2]] 3"},
		{"below 0 no ring either", full(3), []int{-1, -2, -3}, "[[0 2] [1 2]] -5"},
		{"above 0 all hang together", path(4), []int{9, 9, 9}, "[[0 1] [1 2] [2 3]] 27"},
		{"two parts", beside(full(3), ring(4)), []int{3, 1, 2, 8, 7, 6, 5}, "[[0 2] [1 2] [3 6] [4 5] [5 6]] 21"},
		{"by nodes among those of one weight", of(4, 2, 3, 1, 3, 1, 2, 0, 1), []int{2, 2, 2, 1}, "[[0 1] [1 2] [1 3]] 5"},
		{"a weight ahead of nodes", of(4, 0, 1, 1, 2, 2, 3, 3, 0), []int{1, 0, 0, 0}, "[[0 3] [1 2] [2 3]] 0"},
		{"second nodes are numbers", of(11, 0, 10, 0, 2, 2, 10), []int{1, 1, 1}, "[[0 2] [0 10]] 2"},
		{"first nodes are numbers", of(12, 9, 10, 10, 11, 9, 11), []int{1, 1, 1}, "[[9 10] [9 11]] 2"},
		{"the greatest and the least weight", full(3), []int{most, -most, most}, "[[0 1] [0 2]] 0"},
	} {
		edges, total, f := trees.Least(x.g, x.weights)
		same(t, "Least, "+x.name, fmt.Sprint(edges, total), x.want, f)
		h, weights := backward(x.g, x.weights)
		edges, total, f = trees.Least(h, weights)
		same(t, "Least, backward, "+x.name, fmt.Sprint(edges, total), x.want, f)
	}
}

// backward has the edges and their weights from the last to the first, every other edge the other way round.
func backward(g api.Graph, weights []int) (api.Graph, []int) {
	weights = slices.Clone(weights)
	slices.Reverse(weights)
	return scrambled(g), weights
}

// weightings has weights for so many edges: all alike, few that differ, and many that do.
func weightings(edges int) [][]int {
	var out [][]int
	for _, kinds := range []int{1, 2, 3, 7, 2*most + 1} {
		x := uint64(edges*31 + kinds)
		weights := make([]int, edges)
		for i := range weights {
			x = x*6364136223846793005 + 1442695040888963407
			weights[i] = int(x>>33)%kinds - kinds/2
		}
		out = append(out, weights)
	}
	return out
}

func TestLeast(t *testing.T) {
	for _, g := range small(5) {
		for _, weights := range weightings(len(g.Edges)) {
			want, sum := leastBySets(g, weights)
			wantLeast(t, g, weights, want, sum)
		}
	}
	for _, g := range append(medium(), great()...) {
		for _, weights := range weightings(len(g.Edges)) {
			want, sum := leastByLesser(g, weights)
			wantLeast(t, g, weights, want, sum)
		}
	}
}

func wantLeast(t *testing.T, g api.Graph, weights []int, want [][2]int, sum int) {
	t.Helper()
	edges, total, f := trees.Least(g, weights)
	same(t, fmt.Sprint("Least of ", g, " with ", weights), fmt.Sprint(edges, total), fmt.Sprint(want, sum), f)
	g, weights = backward(g, weights)
	edges, total, f = trees.Least(g, weights)
	same(t, fmt.Sprint("Least of ", g, " with ", weights), fmt.Sprint(edges, total), fmt.Sprint(want, sum), f)
}

func TestLeastAtTheLimits(t *testing.T) {
	for _, weight := range []int{-most, most} {
		g := some(api.MaxNodes, api.MaxEdges)
		edges, total, f := trees.Least(g, slices.Repeat([]int{weight}, api.MaxEdges))
		want := star(api.MaxNodes).Edges
		same(t, fmt.Sprint("Least of MaxEdges, each ", weight), fmt.Sprint(edges, total), fmt.Sprint(want, 99*weight), f)
	}
}

func TestLeastFaults(t *testing.T) {
	for _, x := range []struct {
		name    string
		g       api.Graph
		weights []int
		want    api.Fault
	}{
		{"no weights", full(3), nil, fault(api.ErrSize, 0)},
		{"a weight too few", full(3), []int{1, 2}, fault(api.ErrSize, 0)},
		{"a weight too many", full(3), []int{1, 2, 3, 4}, fault(api.ErrSize, 0)},
		{"a weight for nothing", of(0), []int{1}, fault(api.ErrSize, 0)},
		{"size ahead of range", full(3), []int{most + 1}, fault(api.ErrSize, 0)},
		{"too many of them, size ahead of range", of(2, 0, 1), []int{1, most + 1}, fault(api.ErrSize, 0)},
		{"a weight too great", full(3), []int{0, most + 1, 0}, fault(api.ErrRange, 1)},
		{"a weight too small", full(3), []int{0, 0, -most - 1}, fault(api.ErrRange, 2)},
		{"the first one of several", full(3), []int{most, -most - 1, most + 1}, fault(api.ErrRange, 1)},
		{"at 0", full(3), []int{math.MinInt, 0, math.MaxInt}, fault(api.ErrRange, 0)},
		{"one that the forest need not have", of(3, 0, 1, 1, 2, 2, 0), []int{1, 1, math.MaxInt}, fault(api.ErrRange, 2)},
		{"the list's order, not the form's", of(3, 2, 1, 1, 0), []int{most + 1, -most - 1}, fault(api.ErrRange, 0)},
		{"the graph ahead of size", of(2, 0, 1, 1, 0), nil, fault(api.ErrTwice, 1)},
		{"the graph ahead of range", of(2, 0, 1, 1, 1), []int{most + 1, 0}, fault(api.ErrLoop, 1)},
	} {
		edges, total, f := trees.Least(x.g, x.weights)
		wantFault(t, "Least, "+x.name, answer{edges: edges, number: total}, f, x.want)
	}
	last := make([]int, api.MaxEdges)
	last[api.MaxEdges-1] = most + 1
	edges, total, f := trees.Least(some(api.MaxNodes, api.MaxEdges), last)
	wantFault(t, "Least, the last of MaxEdges", answer{edges: edges, number: total}, f, fault(api.ErrRange, api.MaxEdges-1))
}
