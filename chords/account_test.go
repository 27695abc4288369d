package chords_test

import (
	"slices"

	"arbor/api"
)

// A second account of what the chapter says, as near to its words as may be, and no matter how slow.

// table tells of any two nodes whether they have an edge.
func table(g api.Graph) [][]bool {
	near := make([][]bool, g.N)
	for v := range near {
		near[v] = make([]bool, g.N)
	}
	for _, e := range g.Edges {
		near[e[0]][e[1]], near[e[1]][e[0]] = true, true
	}
	return near
}

// areNodes tells whether these are different nodes.
func areNodes(g api.Graph, nodes []int) bool {
	for i, v := range nodes {
		if v < 0 || v >= g.N || slices.Contains(nodes[:i], v) {
			return false
		}
	}
	return true
}

// isOrder tells whether all nodes are there, and of each one those behind it with which it has an edge are a clique.
func isOrder(g api.Graph, order []int) bool {
	if len(order) != g.N || !areNodes(g, order) {
		return false
	}
	near := table(g)
	for i, v := range order {
		for j := i + 1; j < g.N; j++ {
			for k := j + 1; k < g.N; k++ {
				if near[v][order[j]] && near[v][order[k]] && !near[order[j]][order[k]] {
					return false
				}
			}
		}
	}
	return true
}

// isHole tells whether four nodes or more are a ring, one behind the other, without a chord.
func isHole(g api.Graph, hole []int) bool {
	if len(hole) < 4 || !areNodes(g, hole) {
		return false
	}
	near := table(g)
	for i, u := range hole {
		for j, v := range hole[:i] {
			beside := i == j+1 || j == 0 && i == len(hole)-1
			if near[u][v] != beside {
				return false
			}
		}
	}
	return true
}

// hasOrder tries all orders of the nodes.
func hasOrder(g api.Graph) bool {
	ok := false
	eachOrder(g.N, func(order []int) bool {
		ok = isOrder(g, order)
		return ok
	})
	return ok
}

// eachOrder goes through the orders of n nodes, until see says that it is enough.
func eachOrder(n int, see func(order []int) bool) {
	var from func(order []int) bool
	from = func(order []int) bool {
		if len(order) == n {
			return see(order)
		}
		for v := range n {
			if !slices.Contains(order, v) && from(append(slices.Clone(order), v)) {
				return true
			}
		}
		return false
	}
	from(nil)
}

// hasHole goes through all sets of nodes: a hole is one of four or more in which each node has two edges, and that hangs together.
func hasHole(g api.Graph) bool {
	near := table(g)
	for bits := range 1 << g.N {
		var nodes []int
		for v := range g.N {
			if bits>>v&1 == 1 {
				nodes = append(nodes, v)
			}
		}
		if len(nodes) >= 4 && eachHasTwo(near, nodes) && len(reach(near, nodes[0], nodes)) == len(nodes) {
			return true
		}
	}
	return false
}

func eachHasTwo(near [][]bool, nodes []int) bool {
	return !slices.ContainsFunc(nodes, func(v int) bool {
		many := 0
		for _, u := range nodes {
			if near[u][v] {
				many++
			}
		}
		return many != 2
	})
}

// reach answers the nodes to which ways lead from one through these nodes.
func reach(near [][]bool, from int, nodes []int) []int {
	met := []int{from}
	for at := 0; at < len(met); at++ {
		for _, v := range nodes {
			if near[met[at]][v] && !slices.Contains(met, v) {
				met = append(met, v)
			}
		}
	}
	return met
}

// hasTriple tells whether of some three nodes any two are on a way that meets no node that has an edge with the third one, nor it itself.
func hasTriple(g api.Graph) bool {
	near := table(g)
	apart := make([][][]bool, g.N) // of c, a, b: does such a way lead from a to b?
	for c := range g.N {
		apart[c] = make([][]bool, g.N)
		var open []int
		for v := range g.N {
			if v != c && !near[c][v] {
				open = append(open, v)
			}
		}
		for a := range g.N {
			apart[c][a] = make([]bool, g.N)
			if slices.Contains(open, a) {
				for _, b := range reach(near, a, open) {
					apart[c][a][b] = true
				}
			}
		}
	}
	for a := range g.N {
		for b := range a {
			for c := range b {
				if apart[c][a][b] && apart[b][a][c] && apart[a][b][c] {
					return true
				}
			}
		}
	}
	return false
}

// areIntervals tells whether these are intervals, one for each node, that meet just where there is an edge.
func areIntervals(g api.Graph, spans [][2]int) bool {
	if len(spans) != g.N {
		return false
	}
	near := table(g)
	for u, s := range spans {
		if s[0] > s[1] {
			return false
		}
		for v, r := range spans[:u] {
			if (max(s[0], r[0]) <= min(s[1], r[1])) != near[u][v] {
				return false
			}
		}
	}
	return true
}

// meetings has the edges, in form, of each graph of n nodes that intervals of numbers below n have. More numbers are not needed: one at which no interval begins can be left out.
func meetings(n int) map[string]int {
	var all [][2]int
	for b := range n {
		for a := range b + 1 {
			all = append(all, [2]int{a, b})
		}
	}
	seen := map[string]int{}
	var from func(spans [][2]int, word string)
	from = func(spans [][2]int, word string) {
		if len(spans) == n {
			seen[word] = 1
			return
		}
		for _, s := range all {
			more := word
			for _, r := range spans {
				if max(s[0], r[0]) <= min(s[1], r[1]) {
					more += "+"
				} else {
					more += "-"
				}
			}
			from(append(slices.Clone(spans), s), more)
		}
	}
	from(nil, "")
	return seen
}

// wordOf names a graph as meetings does: of each node, and each one ahead of it, whether they have an edge.
func wordOf(g api.Graph) string {
	word := ""
	for v := range g.N {
		for u := range v {
			if has(g, u, v) {
				word += "+"
			} else {
				word += "-"
			}
		}
	}
	return word
}

// areOrders tells whether each edge is there once, as an arc, rising, and arcs lead on.
func areOrders(g api.Graph, arcs [][2]int) bool {
	near := table(g)
	to := table(api.Graph{N: g.N})
	if len(arcs) != len(g.Edges) {
		return false
	}
	for i, arc := range arcs {
		if i > 0 && slices.Compare(arcs[i-1][:], arc[:]) >= 0 || !areNodes(g, arc[:]) || !near[arc[0]][arc[1]] || to[arc[1]][arc[0]] {
			return false
		}
		to[arc[0]][arc[1]] = true
	}
	for _, arc := range arcs {
		for z := range g.N {
			if to[arc[1]][z] && !to[arc[0]][z] {
				return false
			}
		}
	}
	return true
}

// hasOrders gives the edges their directions, one by one, in all ways in which arcs lead on where both have theirs.
func hasOrders(g api.Graph) bool {
	near := table(g)
	to := table(api.Graph{N: g.N})
	var from func(edges [][2]int) bool
	from = func(edges [][2]int) bool {
		if len(edges) == 0 {
			return true
		}
		for _, arc := range [][2]int{{edges[0][0], edges[0][1]}, {edges[0][1], edges[0][0]}} {
			to[arc[0]][arc[1]] = true
			if !breaks(near, to, arc[0], arc[1]) && from(edges[1:]) {
				return true
			}
			to[arc[0]][arc[1]] = false
		}
		return false
	}
	return from(g.Edges)
}

// breaks tells whether behind or ahead of the arc from x to y one stands to which none leads all the way, nor can.
func breaks(near, to [][]bool, x, y int) bool {
	for z := range to {
		if to[y][z] && (!near[x][z] || to[z][x]) || to[z][x] && (!near[z][y] || to[y][z]) {
			return true
		}
	}
	return false
}

// isForcedBothWays tells whether an arc forces itself the other way round, in the graph as it stands: there are orders just if none does (a theorem of Gallai's). It gives arcs that force each other one mark.
func isForcedBothWays(g api.Graph) bool {
	near := table(g)
	mark := map[[2]int]int{}
	many := 0
	for _, e := range g.Edges {
		for _, arc := range [][2]int{e, {e[1], e[0]}} {
			if mark[arc] > 0 {
				continue
			}
			many++
			mark[arc] = many
			for queue := [][2]int{arc}; len(queue) > 0; queue = queue[1:] {
				x, y := queue[0][0], queue[0][1]
				for z := range g.N {
					if z != y && near[x][z] && !near[y][z] && mark[[2]int{x, z}] == 0 {
						mark[[2]int{x, z}] = many
						queue = append(queue, [2]int{x, z})
					}
					if z != x && near[y][z] && !near[x][z] && mark[[2]int{z, y}] == 0 {
						mark[[2]int{z, y}] = many
						queue = append(queue, [2]int{z, y})
					}
				}
			}
		}
	}
	return slices.ContainsFunc(g.Edges, func(e [2]int) bool { return mark[e] == mark[[2]int{e[1], e[0]}] })
}

// allCliques goes through all cliques, made longer node by node, in the order of lists, and answers those to which no node could come.
func allCliques(g api.Graph) [][]int {
	near := table(g)
	var out [][]int
	var from func(clique []int)
	from = func(clique []int) {
		whole := len(clique) > 0
		for v := range g.N {
			if slices.ContainsFunc(clique, func(u int) bool { return !near[u][v] }) {
				continue
			}
			whole = false
			if len(clique) == 0 || v > clique[len(clique)-1] {
				from(append(slices.Clone(clique), v))
			}
		}
		if whole {
			out = append(out, clique)
		}
	}
	from(nil)
	return out
}
