package chords

import "slices"

// peel takes nodes away, and their edges, that have edges with a clique alone; it answers them as they went, and ends when none is left that may go. Which one goes first does no harm: what is left of a graph of which each ring of four nodes or more has a chord is such a graph, too, and each such graph with nodes has one that may go.
func peel(near []set) []int {
	var order []int
	left := all(len(near)).rising()
	for {
		at := slices.IndexFunc(left, func(v int) bool { return isClique(near, near[v]) })
		if at < 0 {
			return order
		}
		v := left[at]
		for _, u := range near[v].rising() {
			part(near, u, v)
		}
		order = append(order, v)
		left = slices.Delete(left, at, at+1)
	}
}

// findHole answers a ring of four nodes or more without a chord, if there is one: a node, and a shortest way from one near it to another one near it, which have no edge, through nodes that are not near it.
func findHole(near []set) []int {
	for v := range near {
		for _, a := range near[v].rising() {
			far := func(u int) bool { return u != v && !near[v].has(u) }
			last := func(u int) bool { return near[v].has(u) && !near[a].has(u) }
			if way := shortWay(near, a, far, last); len(way) > 0 {
				return append(way, v)
			}
		}
	}
	return nil
}

// shortWay answers a shortest way, the last node first, from a node through open ones to one that may be the last; nothing, if there is none.
func shortWay(near []set, from int, open, last func(v int) bool) []int {
	back := slices.Repeat([]int{none}, len(near)) // of each node that was met the one from which it was
	back[from] = from
	queue := []int{from}
	for at := 0; at < len(queue); at++ {
		v := queue[at]
		for _, u := range near[v].rising() {
			switch {
			case back[u] != none:
			case last(u):
				back[u] = v
				return goBack(back, u)
			case open(u):
				back[u] = v
				queue = append(queue, u)
			}
		}
	}
	return nil
}

// goBack answers the way from v back to the node that was met from itself.
func goBack(back []int, v int) []int {
	way := []int{v}
	for back[v] != v {
		v = back[v]
		way = append(way, v)
	}
	return way
}
