package walks

import "slices"

// firstWithEdge answers the first node that has an edge; -1: there is none.
func firstWithEdge(near [][]int) int {
	return slices.IndexFunc(near, func(nodes []int) bool { return len(nodes) > 0 })
}

// hangTogether tells whether a walk leads from start to each node that has an edge.
func hangTogether(near [][]int, start int) bool {
	for v, steps := range farFrom(near, start) {
		if steps < 0 && len(near[v]) > 0 {
			return false
		}
	}
	return true
}

// oddNodes answers the nodes that have an odd number of edges, rising.
func oddNodes(near [][]int) []int {
	var odd []int
	for v, nodes := range near {
		if len(nodes)%2 == 1 {
			odd = append(odd, v)
		}
	}
	return odd
}

// plan[u][v], and plan[v][u] as well, is how often a walk has yet to go along the edge of u and v.
type plan [][]int

// planOf has each edge once.
func planOf(near [][]int) plan {
	p := make(plan, len(near))
	for v, nodes := range near {
		p[v] = make([]int, len(near))
		for _, u := range nodes {
			p[v][u] = 1
		}
	}
	return p
}

func (p plan) add(u, v, times int) {
	p[u][v] += times
	p[v][u] += times
}

// walk uses the plan up, and answers a walk that does what it says. All of it hangs together with start; if two nodes are odd in it, start is one of them.
func (p plan) walk(start int) []int {
	var out []int
	var leave func(v int)
	leave = func(v int) {
		for u := range p {
			for p[v][u] > 0 {
				p.add(u, v, -1)
				leave(u)
			}
		}
		// told only when it is left for good, so that each round that was made from it stands where it belongs
		out = append(out, v)
	}
	leave(start)
	return out
}

// makeEven adds shortest walks that end at the odd nodes, each at two of them, as few edges in all as may be.
func (p plan) makeEven(near [][]int, odd []int) {
	far := make([][]int, len(near))
	for _, v := range odd {
		far[v] = farFrom(near, v)
	}
	for _, pair := range nearestPairs(odd, func(u, v int) int { return far[u][v] }) {
		way := home(near, far[pair[0]], pair[1])
		for i := 1; i < len(way); i++ {
			p.add(way[i-1], way[i], 1)
		}
	}
}

// nearestPairs tries all ways to put the nodes, an even number of them, in pairs, and answers that with the least sum of far.
func nearestPairs(nodes []int, far func(u, v int) int) [][2]int {
	var pairs, best [][2]int
	least := -1
	var try func(left []int, sum int)
	try = func(left []int, sum int) {
		if least >= 0 && sum >= least {
			return
		}
		if len(left) == 0 {
			least, best = sum, slices.Clone(pairs)
			return
		}
		for at := 1; at < len(left); at++ {
			u, v := left[0], left[at]
			pairs = append(pairs, [2]int{u, v})
			try(slices.Concat(left[1:at], left[at+1:]), sum+far(u, v))
			pairs = pairs[:len(pairs)-1]
		}
	}
	try(nodes, 0)
	return best
}
