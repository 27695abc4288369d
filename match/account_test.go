package match_test

import (
	"math/bits"
	"slices"

	"arbor/api"
)

// A second account of what the chapter says, as near to its words as may be, and no matter how slow.

// matchings goes through all matchings of g.
func matchings(g api.Graph, see func(pairs [][2]int)) {
	taken := make([]bool, g.N)
	var pairs [][2]int
	var from func(at int)
	from = func(at int) {
		if at == len(g.Edges) {
			see(pairs)
			return
		}
		from(at + 1)
		e := g.Edges[at]
		if !taken[e[0]] && !taken[e[1]] {
			taken[e[0]], taken[e[1]] = true, true
			pairs = append(pairs, e)
			from(at + 1)
			pairs = pairs[:len(pairs)-1]
			taken[e[0]], taken[e[1]] = false, false
		}
	}
	from(0)
}

// account is what all matchings of g tell.
type account struct {
	most    int   // edges of a greatest one
	whole   int   // how many go to all nodes
	d, a, c []int // as Split tells them
}

func accountOf(g api.Graph) account {
	out := account{}
	alone := make([]bool, g.N)
	matchings(g, func(pairs [][2]int) {
		if len(pairs) > out.most {
			out.most = len(pairs)
			clear(alone)
		}
		if 2*len(pairs) == g.N {
			out.whole++
		}
		if len(pairs) < out.most {
			return
		}
		for v := range g.N {
			alone[v] = alone[v] || !slices.ContainsFunc(pairs, func(e [2]int) bool { return e[0] == v || e[1] == v })
		}
	})
	out.d, out.a, out.c = splitBy(g, alone)
	return out
}

// splitBy puts the nodes where they belong, if it is known which ones some greatest matching leaves alone.
func splitBy(g api.Graph, alone []bool) (d, a, c []int) {
	for v := range g.N {
		beside := slices.ContainsFunc(g.Edges, func(e [2]int) bool {
			return e[0] == v && alone[e[1]] || e[1] == v && alone[e[0]]
		})
		switch {
		case alone[v]:
			d = append(d, v)
		case beside:
			a = append(a, v)
		default:
			c = append(c, v)
		}
	}
	return d, a, c
}

// without is g without these nodes' edges, and the same numbers.
func without(g api.Graph, nodes []int) api.Graph {
	out := api.Graph{N: g.N}
	for _, e := range g.Edges {
		if !slices.Contains(nodes, e[0]) && !slices.Contains(nodes, e[1]) {
			out.Edges = append(out.Edges, e)
		}
	}
	return out
}

// oddLeft is how many components with an odd number of nodes are left without these nodes.
func oddLeft(g api.Graph, nodes []int) int {
	sizes := map[int]int{}
	for v, part := range partOf(without(g, nodes)) {
		if !slices.Contains(nodes, v) {
			sizes[part]++
		}
	}
	odd := 0
	for _, size := range sizes {
		odd += size % 2
	}
	return odd
}

// partOf has of each node the least one to which a way leads.
func partOf(g api.Graph) []int {
	part := make([]int, g.N)
	for v := range part {
		part[v] = v
	}
	for again := true; again; {
		again = false
		for _, e := range g.Edges {
			least := min(part[e[0]], part[e[1]])
			again = again || part[e[0]] != part[e[1]]
			part[e[0]], part[e[1]] = least, least
		}
	}
	return part
}

// hasSides tries which nodes can be on one side: each component's first one, and then what must be.
func hasSides(g api.Graph) bool {
	side := make([]int, g.N)
	for v, part := range partOf(g) {
		if v == part {
			side[v] = 1
		}
	}
	for range g.N {
		for _, e := range g.Edges {
			for i := range e {
				if side[e[i]] != 0 && side[e[1-i]] == 0 {
					side[e[1-i]] = -side[e[i]]
				}
			}
		}
	}
	return !slices.ContainsFunc(g.Edges, func(e [2]int) bool { return side[e[0]] == side[e[1]] })
}

const prime = 1<<61 - 1

func times(a, b uint64) uint64 {
	high, low := bits.Mul64(a, b)
	_, rest := bits.Div64(high, low, prime)
	return rest
}

// wholeBySets is how many matchings go to all N nodes, N even, modulo a prime that is more than any such number here: of the lists of N/2 edges those that keep off some node are taken away, by all sets of nodes; each matching is left in each order of its edges.
func wholeBySets(g api.Graph) uint64 {
	near := make([]uint, g.N)
	for _, e := range g.Edges {
		near[e[0]] |= 1 << e[1]
		near[e[1]] |= 1 << e[0]
	}
	sum := uint64(0)
	var add func(v int, set uint, edges uint64)
	add = func(v int, set uint, edges uint64) {
		if v < g.N {
			add(v+1, set, edges)
			add(v+1, set|1<<v, edges+uint64(bits.OnesCount(near[v]&set)))
			return
		}
		lists := uint64(1)
		for range g.N / 2 {
			lists = times(lists, edges)
		}
		if (g.N-bits.OnesCount(set))%2 == 1 {
			lists = prime - lists
		}
		sum = (sum + lists) % prime
	}
	add(0, 0, 0)
	orders := uint64(1)
	for i := range uint64(g.N / 2) {
		orders = times(orders, i+1)
	}
	return times(sum, inverse(orders))
}

// inverse is a^(prime - 2).
func inverse(a uint64) uint64 {
	out := uint64(1)
	for left := uint64(prime - 2); left > 0; left >>= 1 {
		if left&1 == 1 {
			out = times(out, a)
		}
		a = times(a, a)
	}
	return out
}
