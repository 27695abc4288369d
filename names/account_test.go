package names_test

import (
	"slices"

	"arbor/api"
)

// A second account of what the chapter says, as near to its words as may be, and no matter how slow.

// permutations has all of n.
func permutations(n int) [][]int {
	if n == 0 {
		return [][]int{{}}
	}
	var out [][]int
	for _, p := range permutations(n - 1) {
		for at := range n {
			out = append(out, slices.Insert(slices.Clone(p), at, n-1))
		}
	}
	return out
}

// someTakes: one of all takes a to b.
func someTakes(all [][]int, a, b api.Graph) bool {
	return slices.ContainsFunc(all, func(p []int) bool { return takes(p, a, b) })
}

// howMany counts the permutations that take a to b, up to most: node by node each place with as many edges is tried, and given up where edges don't go together.
func howMany(a, b api.Graph, most int) int {
	if a.N != b.N || len(a.Edges) != len(b.Edges) {
		return 0
	}
	nearA, nearB, order := table(a), table(b), connected(a)
	edgesA, edgesB := edgesAt(a), edgesAt(b)
	to, taken, many := make([]int, a.N), make([]bool, a.N), 0
	var from func(at int)
	from = func(at int) {
		if at == a.N {
			many++
			return
		}
		v := order[at]
		for w := 0; w < a.N && many < most; w++ {
			if !taken[w] && edgesA[v] == edgesB[w] && fits(nearA, nearB, order[:at], to, v, w) {
				to[v], taken[w] = w, true
				from(at + 1)
				taken[w] = false
			}
		}
	}
	from(0)
	return many
}

// edgesAt has of each node the number of its edges.
func edgesAt(g api.Graph) []int {
	many := make([]int, g.N)
	for _, e := range g.Edges {
		many[e[0]]++
		many[e[1]]++
	}
	return many
}

// fits: v has edges with the placed nodes just where w has edges with their places.
func fits(nearA, nearB [][]bool, placed, to []int, v, w int) bool {
	for _, u := range placed {
		if nearA[u][v] != nearB[to[u]][w] {
			return false
		}
	}
	return true
}

// connected has all nodes, each as near as may be to those ahead, so that few places fit.
func connected(g api.Graph) []int {
	near, left := table(g), still(g.N)
	links := make([]int, g.N)
	var out []int
	for len(left) > 0 {
		v := slices.MaxFunc(left, func(u, v int) int { return links[u] - links[v] })
		left = slices.DeleteFunc(left, func(u int) bool { return u == v })
		out = append(out, v)
		for u := range g.N {
			if near[u][v] {
				links[u]++
			}
		}
	}
	return out
}
