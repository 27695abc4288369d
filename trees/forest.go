package trees

import (
	"cmp"
	"slices"

	"arbor/api"
)

// weighed is an edge, its lesser node first, with its weight.
type weighed struct {
	weight int
	nodes  [2]int
}

// checkWeights tells whether there are as many weights as edges, and the first weight that is too great or too small.
func checkWeights(weights []int, edges int) api.Fault {
	if len(weights) != edges {
		return api.Fault{Code: api.ErrSize}
	}
	for at, w := range weights {
		if w < -api.MaxValue || w > api.MaxValue {
			return api.Fault{Code: api.ErrRange, At: at}
		}
	}
	return api.Fault{}
}

// rising has the edges by weight, then by nodes.
// No two of them stand equal, so that the forest that takes each edge it can, in this order, is the only least one: at each place of its list it has the least edge that any forest can have there.
func rising(edges [][2]int, weights []int) []weighed {
	out := make([]weighed, len(edges))
	for at, e := range edges {
		out[at] = weighed{weights[at], [2]int{min(e[0], e[1]), max(e[0], e[1])}}
	}
	slices.SortFunc(out, func(a, b weighed) int {
		return cmp.Or(
			cmp.Compare(a.weight, b.weight),
			cmp.Compare(a.nodes[0], b.nodes[0]),
			cmp.Compare(a.nodes[1], b.nodes[1]),
		)
	})
	return out
}

// joiner answers a function that puts two nodes of n into one part, and tells whether they were in two; at first each node is a part of its own.
func joiner(n int) func(u, v int) bool {
	part := make([]int, n)
	for v := range part {
		part[v] = v
	}
	return func(u, v int) bool {
		from, to := part[u], part[v]
		if from == to {
			return false
		}
		for w := range part {
			if part[w] == from {
				part[w] = to
			}
		}
		return true
	}
}
