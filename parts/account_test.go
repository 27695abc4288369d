package parts_test

import (
	"slices"

	"arbor/api"
)

// A second account of what the chapter says, as near to its words as may be, and no matter how slow.

// components: each node takes the least number that it can have from its neighbours, again and again.
func components(g api.Graph) [][]int {
	first := make([]int, g.N)
	for v := range first {
		first[v] = v
	}
	for changed := true; changed; {
		changed = false
		for _, e := range g.Edges {
			if least := min(first[e[0]], first[e[1]]); first[e[0]] != first[e[1]] {
				first[e[0]], first[e[1]], changed = least, least, true
			}
		}
	}
	var out [][]int
	for v := range g.N {
		var part []int
		for u, least := range first {
			if least == v {
				part = append(part, u)
			}
		}
		if len(part) > 0 {
			out = append(out, part)
		}
	}
	return out
}

// bridges: each edge is taken away.
func bridges(g api.Graph) [][2]int {
	var out [][2]int
	for _, e := range inForm(g.Edges) {
		h := api.Graph{N: g.N}
		for _, d := range inForm(g.Edges) {
			if d != e {
				h.Edges = append(h.Edges, d)
			}
		}
		if len(components(h)) > len(components(g)) {
			out = append(out, e)
		}
	}
	return out
}

// cuts: each node is taken away, with its edges. It stays in the list, alone, and is not counted.
func cuts(g api.Graph) []int {
	var out []int
	for v := range g.N {
		h := api.Graph{N: g.N}
		for _, e := range g.Edges {
			if e[0] != v && e[1] != v {
				h.Edges = append(h.Edges, e)
			}
		}
		if len(components(h))-1 > len(components(g)) {
			out = append(out, v)
		}
	}
	return out
}

// rings has the edges, in form, of every ring of g, each told from its least node, either way round.
func rings(g api.Graph) [][][2]int {
	var out [][][2]int
	var way []int
	var try func()
	try = func() {
		last := way[len(way)-1]
		if len(way) >= 3 && has(g, last, way[0]) {
			var edges [][2]int
			for i, v := range way {
				edges = append(edges, [2]int{v, way[(i+1)%len(way)]})
			}
			out = append(out, inForm(edges))
		}
		for v := way[0] + 1; v < g.N; v++ {
			if has(g, last, v) && !slices.Contains(way, v) {
				way = append(way, v)
				try()
				way = way[:len(way)-1]
			}
		}
	}
	for v := range g.N {
		way = []int{v}
		try()
	}
	return out
}

// blocks: the edges that are one with the first edge that is left, or in a ring with it.
func blocks(g api.Graph) [][][2]int {
	all := rings(g)
	left := inForm(g.Edges)
	var out [][][2]int
	for len(left) > 0 {
		var block, rest [][2]int
		for _, e := range left {
			if e == left[0] || together(all, left[0], e) {
				block = append(block, e)
			} else {
				rest = append(rest, e)
			}
		}
		out, left = append(out, block), rest
	}
	return out
}

func together(rings [][][2]int, d, e [2]int) bool {
	return slices.ContainsFunc(rings, func(ring [][2]int) bool {
		return slices.Contains(ring, d) && slices.Contains(ring, e)
	})
}

// sides tries all ways to put the nodes on two sides, the first of each component on side 0; nil: there is none.
func sides(g api.Graph) []int {
	for set := range 1 << g.N {
		side := make([]int, g.N)
		for v := range side {
			side[v] = set >> v & 1
		}
		fits := true
		for _, e := range g.Edges {
			fits = fits && side[e[0]] != side[e[1]]
		}
		for _, part := range components(g) {
			fits = fits && side[part[0]] == 0
		}
		if fits {
			return side
		}
	}
	return nil
}

// isOddRing tells whether the nodes are an odd ring of g.
func isOddRing(g api.Graph, nodes []int) bool {
	for i, v := range nodes {
		if !has(g, v, nodes[(i+1)%len(nodes)]) || slices.Contains(nodes[:i], v) {
			return false
		}
	}
	return len(nodes) >= 3 && len(nodes)%2 == 1
}

// strong: ways are put together through each node in turn.
func strong(n int, arcs [][2]int) [][]int {
	way := make([][]bool, n)
	for v := range way {
		way[v] = make([]bool, n)
		way[v][v] = true
	}
	for _, arc := range arcs {
		way[arc[0]][arc[1]] = true
	}
	for mid := range n {
		for u := range n {
			for v := range n {
				way[u][v] = way[u][v] || way[u][mid] && way[mid][v]
			}
		}
	}
	var left [][]int
	for v := range n {
		var part []int
		for u := range n {
			if way[u][v] && way[v][u] {
				part = append(part, u)
			}
		}
		if part[0] == v {
			left = append(left, part)
		}
	}
	return ordered(left, way)
}

// ordered has the parts again and again the first one to which no way leads from another one that is left; they come with their first nodes rising.
func ordered(left [][]int, way [][]bool) [][]int {
	var out [][]int
	for len(left) > 0 {
		at := slices.IndexFunc(left, func(part []int) bool {
			return !slices.ContainsFunc(left, func(other []int) bool {
				return other[0] != part[0] && way[other[0]][part[0]]
			})
		})
		out = append(out, left[at])
		left = slices.Delete(left, at, at+1)
	}
	return out
}
