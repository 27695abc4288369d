package colour_test

import (
	"slices"

	"arbor/api"
)

// A second account of what the chapter says, as near to its words as may be, and no matter how slow.

// isColouring tells whether these are colours below limit, one for each node, different ones for the two nodes of an edge.
func isColouring(g api.Graph, colours []int, limit int) bool {
	if len(colours) != g.N {
		return false
	}
	for _, colour := range colours {
		if colour < 0 || colour >= limit {
			return false
		}
	}
	return !slices.ContainsFunc(g.Edges, func(e [2]int) bool { return colours[e[0]] == colours[e[1]] })
}

// countAll counts the colourings with colours below x by going through all lists of colours.
func countAll(g api.Graph, x int) int {
	count := 0
	colours := make([]int, g.N)
	for {
		if isColouring(g, colours, x) {
			count++
		}
		v := 0
		for v < g.N && colours[v] >= x-1 {
			colours[v] = 0
			v++
		}
		if v == g.N {
			return count
		}
		colours[v]++
	}
}

// counts answers how many colourings there are with colours below 0, 1, .. most: those with one colour more have some set of nodes, with no edge between them, of this colour.
func counts(g api.Graph, most int) []int {
	loose := looseSets(g)
	count := make([]int, 1<<g.N)
	count[0] = 1
	out := []int{count[len(count)-1]}
	for range most {
		more := make([]int, len(count))
		for set := range count {
			for part := set; ; part = (part - 1) & set {
				if loose[part] {
					more[set] += count[set&^part]
				}
				if part == 0 {
					break
				}
			}
		}
		count = more
		out = append(out, count[len(count)-1])
	}
	return out
}

// looseSets tells of each set of nodes, as bits, whether no two have an edge.
func looseSets(g api.Graph) []bool {
	loose := make([]bool, 1<<g.N)
	for set := range loose {
		loose[set] = !slices.ContainsFunc(g.Edges, func(e [2]int) bool { return (set>>e[0])&(set>>e[1])&1 == 1 })
	}
	return loose
}

// valueAt answers what a polynomial is at x.
func valueAt(p []int, x int) int {
	value := 0
	for _, c := range slices.Backward(p) {
		value = value*x + c
	}
	return value
}

// ringless counts the ways in which all edges can be given a direction so that no ring of arcs comes of it.
func ringless(g api.Graph) int {
	count := 0
	for ways := range 1 << len(g.Edges) {
		arcs := slices.Clone(g.Edges)
		for i, e := range arcs {
			if ways>>i&1 == 1 {
				arcs[i] = [2]int{e[1], e[0]}
			}
		}
		if isRingless(g.N, arcs) {
			count++
		}
	}
	return count
}

// isRingless takes nodes away to which no arc leads, with the arcs from them: all of them go just if there is no ring.
func isRingless(n int, arcs [][2]int) bool {
	gone := make([]bool, n)
	for range n {
		v := slices.IndexFunc(gone, func(b bool) bool { return !b })
		for v < n && (gone[v] || slices.ContainsFunc(arcs, func(a [2]int) bool { return a[1] == v && !gone[a[0]] })) {
			v++
		}
		if v == n {
			return false
		}
		gone[v] = true
	}
	return true
}

// edgesAt answers how many edges each node has.
func edgesAt(g api.Graph) []int {
	many := make([]int, g.N)
	for _, e := range g.Edges {
		many[e[0]]++
		many[e[1]]++
	}
	return many
}

func mostEdges(g api.Graph) int { return slices.Max(append(edgesAt(g), 0)) }

// inForm has the edges of g in form.
func inForm(g api.Graph) [][2]int {
	var edges [][2]int
	for _, e := range g.Edges {
		edges = append(edges, [2]int{min(e[0], e[1]), max(e[0], e[1])})
	}
	slices.SortFunc(edges, func(d, e [2]int) int { return slices.Compare(d[:], e[:]) })
	return edges
}

// isBrooks tells whether Brooks has a colouring to tell of g.
func isBrooks(g api.Graph) bool {
	many := edgesAt(g)
	full := !slices.ContainsFunc(many, func(m int) bool { return m != g.N-1 })
	ring := !slices.ContainsFunc(many, func(m int) bool { return m != 2 })
	return components(g) == 1 && !full && !(ring && g.N%2 == 1)
}

// components counts: each edge between nodes with different marks makes them one mark.
func components(g api.Graph) int {
	mark := make([]int, g.N)
	for v := range mark {
		mark[v] = v
	}
	many := g.N
	for _, e := range g.Edges {
		from, to := mark[e[0]], mark[e[1]]
		if from == to {
			continue
		}
		many--
		for v := range mark {
			if mark[v] == from {
				mark[v] = to
			}
		}
	}
	return many
}

// firstClique makes all cliques of one node more out of all of so many nodes, in their order, as long as there are some, and answers the first of the greatest.
func firstClique(g api.Graph) []int {
	table := make([][]bool, g.N)
	for u := range table {
		for v := range g.N {
			table[u] = append(table[u], has(g, u, v))
		}
	}
	cliques := [][]int{nil}
	for {
		var more [][]int
		for _, clique := range cliques {
			for v := range g.N {
				if len(clique) > 0 && v <= clique[len(clique)-1] || slices.ContainsFunc(clique, func(u int) bool { return !table[u][v] }) {
					continue
				}
				more = append(more, append(slices.Clone(clique), v))
			}
		}
		if len(more) == 0 {
			return cliques[0]
		}
		cliques = more
	}
}
