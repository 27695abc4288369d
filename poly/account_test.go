package poly_test

import (
	"math/bits"
	"slices"

	"arbor/api"
)

// A second account of what the chapter says, as near to its words as may be, and no matter how slow.

// pieces counts components: each edge between nodes with different marks makes them one mark.
func pieces(n int, edges [][2]int) int {
	mark := upTo(n)
	many := n
	for _, e := range edges {
		from, to := mark[e[0]], mark[e[1]]
		if from == to {
			continue
		}
		many--
		for v := range mark {
			if mark[v] == from {
				mark[v] = to
			}
		}
	}
	return many
}

// chosen has the edges whose bits are in set.
func chosen(edges [][2]int, set int) [][2]int {
	var out [][2]int
	for i, e := range edges {
		if set>>i&1 == 1 {
			out = append(out, e)
		}
	}
	return out
}

func toThe(x, power int) int {
	out := 1
	for range power {
		out *= x
	}
	return out
}

// sumAt goes through all sets of edges, and answers the sum that the chapter tells, at each of these x and y.
func sumAt(g api.Graph, points [][2]int) []int {
	sums := make([]int, len(points))
	whole := pieces(g.N, g.Edges)
	for set := range 1 << len(g.Edges) {
		k := pieces(g.N, chosen(g.Edges, set))
		for i, p := range points {
			sums[i] += toThe(p[0]-1, k-whole) * toThe(p[1]-1, k+bits.OnesCount(uint(set))-g.N)
		}
	}
	return sums
}

// valueAt answers what a table is at x and y.
func valueAt(table [][]int, x, y int) int {
	value := 0
	for i, row := range table {
		for j, c := range row {
			value += c * toThe(x, i) * toThe(y, j)
		}
	}
	return value
}

// byEdges answers Tutte's polynomial by taking the first edge away, or making its two nodes one: of an edge from a node to itself y times what is left, of one without which there are more components x times what is left, of all others the sum of both. The key is the powers of x and of y.
func byEdges(n int, edges [][2]int) map[[2]int]int {
	if len(edges) == 0 {
		return map[[2]int]int{{0, 0}: 1}
	}
	e, rest := edges[0], edges[1:]
	if e[0] == e[1] {
		return higher(byEdges(n, rest), 0, 1)
	}
	var drawn [][2]int
	for _, d := range rest {
		for i := range d {
			if d[i] == e[0] {
				d[i] = e[1]
			}
		}
		drawn = append(drawn, d)
	}
	one := byEdges(n, drawn)
	if pieces(n, rest) > pieces(n, edges) {
		return higher(one, 1, 0)
	}
	for power, c := range byEdges(n, rest) {
		one[power] += c
	}
	return one
}

func higher(p map[[2]int]int, x, y int) map[[2]int]int {
	out := map[[2]int]int{}
	for power, c := range p {
		out[[2]int{power[0] + x, power[1] + y}] = c
	}
	return out
}

// tableOf has the coefficients in as few rows and columns as can be, all rows of one length.
func tableOf(p map[[2]int]int) [][]int {
	var most [2]int
	for power, c := range p {
		if c != 0 {
			most = [2]int{max(most[0], power[0]), max(most[1], power[1])}
		}
	}
	table := make([][]int, most[0]+1)
	for i := range table {
		for j := range most[1] + 1 {
			table[i] = append(table[i], p[[2]int{i, j}])
		}
	}
	return table
}

// times answers the coefficients of the product of two tables.
func times(a, b [][]int) [][]int {
	p := map[[2]int]int{}
	for i, row := range a {
		for j, c := range row {
			for k, other := range b {
				for l, d := range other {
					p[[2]int{i + k, j + l}] += c * d
				}
			}
		}
	}
	return tableOf(p)
}

// turnedOver has rows as columns.
func turnedOver(table [][]int) [][]int {
	out := make([][]int, len(table[0]))
	for _, row := range table {
		for j, c := range row {
			out[j] = append(out[j], c)
		}
	}
	return out
}

// sized counts by size, up to the greatest one, what is told to see.
func sized(each func(see func(size int))) []int {
	many := map[int]int{}
	most := 0
	each(func(size int) {
		many[size]++
		most = max(most, size)
	})
	var out []int
	for size := range most + 1 {
		out = append(out, many[size])
	}
	return out
}

// matchingsOf goes through all sets of edges.
func matchingsOf(g api.Graph) []int {
	return sized(func(see func(size int)) {
		for set := range 1 << len(g.Edges) {
			seen := map[int]int{}
			for _, e := range chosen(g.Edges, set) {
				seen[e[0]]++
				seen[e[1]]++
			}
			if len(seen) == 2*bits.OnesCount(uint(set)) {
				see(len(seen) / 2)
			}
		}
	})
}

// matchingsByEdge answers the same of more edges: those without the last edge, and those with it, of which no other edge has a node with it.
func matchingsByEdge(edges [][2]int) []int {
	if len(edges) == 0 {
		return []int{1}
	}
	e, rest := edges[len(edges)-1], edges[:len(edges)-1]
	apart := slices.DeleteFunc(slices.Clone(rest), func(d [2]int) bool {
		return d[0] == e[0] || d[0] == e[1] || d[1] == e[0] || d[1] == e[1]
	})
	out := matchingsByEdge(rest)
	for i, many := range matchingsByEdge(apart) {
		if i+1 == len(out) {
			out = append(out, 0)
		}
		out[i+1] += many
	}
	return out
}

// looseOf goes through all sets of nodes.
func looseOf(g api.Graph) []int {
	return sized(func(see func(size int)) {
		for set := range 1 << g.N {
			if !slices.ContainsFunc(g.Edges, func(e [2]int) bool { return set>>e[0]&1 == 1 && set>>e[1]&1 == 1 }) {
				see(bits.OnesCount(uint(set)))
			}
		}
	})
}

// ringsOf goes through all sets of as many edges as there are nodes: such a set is a ring, if each node has two of them, and all hang together.
func ringsOf(g api.Graph) int {
	rings := 0
	for set := range 1 << len(g.Edges) {
		if g.N < 3 || bits.OnesCount(uint(set)) != g.N {
			continue
		}
		edges := chosen(g.Edges, set)
		at := make([]int, g.N)
		for _, e := range edges {
			at[e[0]]++
			at[e[1]]++
		}
		if pieces(g.N, edges) == 1 && !slices.ContainsFunc(at, func(many int) bool { return many != 2 }) {
			rings++
		}
	}
	return rings
}

// ringsByOrder goes through all orders of the nodes: of each ring twice as many as there are nodes go round it.
func ringsByOrder(g api.Graph) int {
	if g.N < 3 {
		return 0
	}
	near := tableOfEdges(g)
	orders := 0
	order := upTo(g.N)
	var from func(at int)
	from = func(at int) {
		if at == g.N {
			for i, v := range order {
				if !near[v][order[(i+1)%g.N]] {
					return
				}
			}
			orders++
			return
		}
		for i := at; i < g.N; i++ {
			order[at], order[i] = order[i], order[at]
			from(at + 1)
			order[at], order[i] = order[i], order[at]
		}
	}
	from(0)
	return orders / (2 * g.N)
}

// tableOfEdges tells of any two nodes whether they have an edge.
func tableOfEdges(g api.Graph) [][]bool {
	near := make([][]bool, g.N)
	for v := range near {
		near[v] = make([]bool, g.N)
	}
	for _, e := range g.Edges {
		near[e[0]][e[1]], near[e[1]][e[0]] = true, true
	}
	return near
}

// ringsByWalks answers the same of more nodes: of all walks of N steps from the first node back to it, those go through all nodes that are left when those that miss some nodes are taken off, by turns, for each set of nodes that they may miss.
func ringsByWalks(g api.Graph) int {
	if g.N < 3 {
		return 0
	}
	sum := 0
	for set := 1; set < 1<<g.N; set += 2 {
		if (g.N-bits.OnesCount(uint(set)))%2 == 0 {
			sum += walksWithin(g, set)
		} else {
			sum -= walksWithin(g, set)
		}
	}
	return sum / 2
}

// walksWithin counts the walks of N steps from the first node back to it within a set of nodes.
func walksWithin(g api.Graph, set int) int {
	walks := make([]int, g.N)
	walks[0] = 1
	for range g.N {
		next := make([]int, g.N)
		for _, e := range g.Edges {
			if set>>e[0]&1 == 1 && set>>e[1]&1 == 1 {
				next[e[0]] += walks[e[1]]
				next[e[1]] += walks[e[0]]
			}
		}
		walks = next
	}
	return walks[0]
}

// faultOf goes through what chapter 1 says of Check, and then what this chapter says.
func faultOf(c call, g api.Graph) api.Fault {
	if g.N < 0 || g.N > api.MaxNodes || len(g.Edges) > api.MaxEdges {
		return fault(api.ErrMany, 0)
	}
	for at, e := range g.Edges {
		switch {
		case min(e[0], e[1]) < 0 || max(e[0], e[1]) >= g.N:
			return fault(api.ErrRange, at)
		case e[0] == e[1]:
			return fault(api.ErrLoop, at)
		case slices.Contains(g.Edges[:at], e) || slices.Contains(g.Edges[:at], [2]int{e[1], e[0]}):
			return fault(api.ErrTwice, at)
		}
	}
	if c.many(g) > api.MaxSmall {
		return fault(api.ErrMany, 0)
	}
	return api.Fault{}
}
