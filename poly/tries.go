package poly

import "arbor/api"

// tryEdges goes through all sets of edges of g, and tells see of each how many components it leaves, and how many edges it has.
func tryEdges(g api.Graph, see func(pieces, size int)) {
	up := make([]int, g.N) // from each node on to one that stands for its component, which is its own up
	for v := range up {
		up[v] = v
	}
	var from func(at, pieces, size int)
	from = func(at, pieces, size int) {
		if at == len(g.Edges) {
			see(pieces, size)
			return
		}
		from(at+1, pieces, size)
		a, b := top(up, g.Edges[at][0]), top(up, g.Edges[at][1])
		if a == b {
			from(at+1, pieces, size+1)
			return
		}
		up[a] = b
		from(at+1, pieces-1, size+1)
		up[a] = a
	}
	from(0, g.N, 0)
}

func top(up []int, v int) int {
	for up[v] != v {
		v = up[v]
	}
	return v
}

// tryMatchings tells see of each matching how many edges it has. The least node that is left stays alone, or is paired with one that is left.
func tryMatchings(near []set, see func(size int)) {
	var from func(left set, size int)
	from = func(left set, size int) {
		if left == 0 {
			see(size)
			return
		}
		v := left.least()
		left &^= only(v)
		from(left, size)
		for others := left & near[v]; others != 0; others &= others - 1 {
			from(left&^only(others.least()), size+1)
		}
	}
	from(below(len(near)), 0)
}

// tryLoose tells see of each set of nodes without an edge how many nodes it has.
func tryLoose(near []set, see func(size int)) {
	var from func(open set, size int)
	from = func(open set, size int) {
		see(size)
		for open != 0 {
			v := open.least()
			open &^= only(v)
			from(open&^near[v], size+1)
		}
	}
	from(below(len(near)), 0)
}

// countRings goes from node 0 on through all others, and back. Many ways come to the same node with the same ones left, so that what is counted there is kept.
func countRings(near []set) int {
	if len(near) < 3 {
		return 0
	}
	known := map[[2]int]int{}
	var from func(v int, left set) int
	from = func(v int, left set) int {
		if left == 0 {
			if near[v].has(0) {
				return 1
			}
			return 0
		}
		place := [2]int{v, int(left)}
		if many, ok := known[place]; ok {
			return many
		}
		many := 0
		for next := left & near[v]; next != 0; next &= next - 1 {
			u := next.least()
			many += from(u, left&^only(u))
		}
		known[place] = many
		return many
	}
	// each ring is gone round both ways
	return from(0, below(len(near))&^only(0)) / 2
}
