package walks

import (
	"slices"

	"arbor/api"
	"arbor/graph"
)

// open answers of each node of g those that have an edge with it, rising; a fault of g comes first, then that of the first of the nodes that is none.
func open(g api.Graph, nodes ...int) ([][]int, api.Fault) {
	form, f := graph.Form(g)
	if f.Code != api.OK {
		return nil, f
	}
	for at, v := range nodes {
		if v < 0 || v >= form.N {
			return nil, api.Fault{Code: api.ErrRange, At: at}
		}
	}
	near := make([][]int, form.N)
	// in form, a node is the second one of its edges before it is the first one of any, so that its list rises
	for _, e := range form.Edges {
		near[e[0]] = append(near[e[0]], e[1])
		near[e[1]] = append(near[e[1]], e[0])
	}
	return near, api.Fault{}
}

// farFrom answers how far each node is from one; -1: no walk leads there.
func farFrom(near [][]int, from int) []int {
	far := make([]int, len(near))
	for v := range far {
		far[v] = -1
	}
	far[from] = 0
	queue := []int{from}
	for at := 0; at < len(queue); at++ {
		v := queue[at]
		for _, u := range near[v] {
			if far[u] < 0 {
				far[u] = far[v] + 1
				queue = append(queue, u)
			}
		}
	}
	return far
}

// home goes from v, from which a walk leads there, to the node that far counts from: each step leads nearer, to the least node that does, so that the walk is the least one.
func home(near [][]int, far []int, v int) []int {
	walk := []int{v}
	for far[v] > 0 {
		at := slices.IndexFunc(near[v], func(u int) bool { return far[u] == far[v]-1 })
		v = near[v][at]
		walk = append(walk, v)
	}
	return walk
}

// closedAt answers how long a walk is that goes from the node that far counts from out to v, and comes back by another edge; 0: there is none.
// A ring of at most so many nodes is in it. A shortest ring is one itself, for each of its nodes, since no walk between two of its nodes is shorter than the ring.
func closedAt(near [][]int, far []int, v int) int {
	if far[v] < 0 {
		return 0
	}
	back, across := 0, 0
	for _, u := range near[v] {
		switch far[u] {
		case far[v] - 1:
			back++
		case far[v]:
			across++
		}
	}
	switch {
	case back > 1:
		return 2 * far[v]
	case across > 0:
		return 2*far[v] + 1
	}
	return 0
}
