package walks_test

import (
	"math/bits"
	"slices"

	"arbor/api"
)

// A second account of what the chapter says, as near to its words as may be, and no matter how slow.

// nextTo has the nodes that have an edge with each node, in the order of the list.
func nextTo(g api.Graph) [][]int {
	next := make([][]int, g.N)
	for _, e := range g.Edges {
		next[e[0]] = append(next[e[0]], e[1])
		next[e[1]] = append(next[e[1]], e[0])
	}
	return next
}

// distances: ways are put together through each node in turn; -1: there is none.
func distances(g api.Graph) [][]int {
	far := make([][]int, g.N)
	for u := range far {
		far[u] = slices.Repeat([]int{-1}, g.N)
		far[u][u] = 0
	}
	for _, e := range g.Edges {
		far[e[0]][e[1]], far[e[1]][e[0]] = 1, 1
	}
	for mid := range g.N {
		for u := range g.N {
			for v := range g.N {
				if far[u][mid] < 0 || far[mid][v] < 0 {
					continue
				}
				if sum := far[u][mid] + far[mid][v]; far[u][v] < 0 || sum < far[u][v] {
					far[u][v] = sum
				}
			}
		}
	}
	return far
}

// leastWays has of each node the least walk to one of all that have so many edges as a shortest one: the least walks of each length are made of those that are one shorter.
func leastWays(g api.Graph, to int) [][]int {
	next := nextTo(g)
	ways := make([][]int, g.N)
	now := make([][]int, g.N)
	now[to] = []int{to}
	for range g.N {
		longer := make([][]int, g.N)
		for v := range g.N {
			if ways[v] == nil {
				ways[v] = now[v]
			}
			for _, u := range next[v] {
				if now[u] == nil {
					continue
				}
				if walk := append([]int{v}, now[u]...); longer[v] == nil || slices.Compare(walk, longer[v]) < 0 {
					longer[v] = walk
				}
			}
		}
		now = longer
	}
	return ways
}

// girthByRings goes through all rings.
func girthByRings(g api.Graph) int {
	least := 0
	var way []int
	var try func()
	try = func() {
		last := way[len(way)-1]
		if len(way) >= 3 && has(g, last, way[0]) && (least == 0 || len(way) < least) {
			least = len(way)
		}
		for v := way[0] + 1; v < g.N; v++ {
			if has(g, last, v) && !slices.Contains(way, v) {
				way = append(way, v)
				try()
				way = way[:len(way)-1]
			}
		}
	}
	for v := range g.N {
		way = []int{v}
		try()
	}
	return least
}

// girthByEdges takes each edge away, and looks how far its ends are then.
func girthByEdges(g api.Graph) int {
	least := 0
	for i, e := range g.Edges {
		h := api.Graph{N: g.N, Edges: slices.Delete(slices.Clone(g.Edges), i, i+1)}
		if far := layers(h, e[0])[e[1]]; far > 0 && (least == 0 || far+1 < least) {
			least = far + 1
		}
	}
	return least
}

// layers has how far each node is from one, by all nodes to which a walk of each length leads.
func layers(g api.Graph, from int) []int {
	next := nextTo(g)
	far := slices.Repeat([]int{-1}, g.N)
	now := make([]bool, g.N)
	now[from] = true
	for steps := range g.N {
		later := make([]bool, g.N)
		for v := range g.N {
			if !now[v] {
				continue
			}
			if far[v] < 0 {
				far[v] = steps
			}
			for _, u := range next[v] {
				later[u] = true
			}
		}
		now = later
	}
	return far
}

// shortestRound is how many edges the shortest walk has that goes along each edge and ends where it begins, by all pairs of a node and a set of edges; -1: there is none.
func shortestRound(g api.Graph) int {
	best := -1
	for start := range g.N {
		if rounds := roundFrom(g, start); rounds >= 0 && (best < 0 || rounds < best) {
			best = rounds
		}
	}
	return best
}

func roundFrom(g api.Graph, start int) int {
	all := 1<<len(g.Edges) - 1
	type state struct{ v, done int }
	seen := map[state]int{{start, 0}: 0}
	queue := []state{{start, 0}}
	for at := 0; at < len(queue); at++ {
		s := queue[at]
		if s.v == start && s.done == all {
			return seen[s]
		}
		for i, e := range g.Edges {
			if e[0] != s.v && e[1] != s.v {
				continue
			}
			later := state{e[0] + e[1] - s.v, s.done | 1<<i}
			if _, ok := seen[later]; !ok {
				seen[later] = seen[s] + 1
				queue = append(queue, later)
			}
		}
	}
	return -1
}

// hasTrail tells whether a walk goes along each edge just once, by trying all that go along none twice.
func hasTrail(g api.Graph) bool {
	used := make([]bool, len(g.Edges))
	var try func(v, left int) bool
	try = func(v, left int) bool {
		if left == 0 {
			return true
		}
		for i, e := range g.Edges {
			if used[i] || e[0] != v && e[1] != v {
				continue
			}
			used[i] = true
			ok := try(e[0]+e[1]-v, left-1)
			used[i] = false
			if ok {
				return true
			}
		}
		return false
	}
	for v := range g.N {
		if try(v, len(g.Edges)) {
			return true
		}
	}
	return len(g.Edges) == 0
}

// oddOnes has the nodes with an odd number of edges.
func oddOnes(g api.Graph) []int {
	var odd []int
	for v, l := range nextTo(g) {
		if len(l)%2 == 1 {
			odd = append(odd, v)
		}
	}
	return odd
}

// oneComponent tells whether all edges are in one component.
func oneComponent(g api.Graph) bool {
	if len(g.Edges) == 0 {
		return true
	}
	far := distances(g)[g.Edges[0][0]]
	return !slices.ContainsFunc(g.Edges, func(e [2]int) bool { return far[e[0]] < 0 })
}

// roundOf is how many edges the shortest walk along all has, by Guan's rule: all edges, and beside them the least sum of distances between odd nodes in pairs, over all sets of them. The edges are in one component.
func roundOf(g api.Graph) int {
	far, odd := distances(g), oddOnes(g)
	least := make([]int, 1<<len(odd))
	for set := 1; set < len(least); set++ {
		if bits.OnesCount(uint(set))%2 == 1 {
			continue
		}
		least[set] = -1
		first := bits.TrailingZeros(uint(set))
		for other := first + 1; other < len(odd); other++ {
			if set>>other&1 == 0 {
				continue
			}
			sum := far[odd[first]][odd[other]] + least[set&^(1<<first|1<<other)]
			if least[set] < 0 || sum < least[set] {
				least[set] = sum
			}
		}
	}
	return len(g.Edges) + least[len(least)-1]
}

// roundByEdges is how many edges the shortest walk along all has: the least set of edges that, gone along twice, leaves no node odd. The edges are in one component.
func roundByEdges(g api.Graph) int {
	odd := oddOnes(g)
	least := len(g.Edges)
	for set := range 1 << len(g.Edges) {
		if bits.OnesCount(uint(set)) >= least {
			continue
		}
		h := api.Graph{N: g.N}
		for i, e := range g.Edges {
			if set>>i&1 == 1 {
				h.Edges = append(h.Edges, e)
			}
		}
		if slices.Equal(oddOnes(h), odd) {
			least = len(h.Edges)
		}
	}
	return len(g.Edges) + least
}
