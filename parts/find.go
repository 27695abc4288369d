package parts

import (
	"slices"

	"arbor/api"
)

// ringed answers of each edge of g, which is in form, some edges that are in one ring with it: so many that the edges of a block hang together.
func ringed(g api.Graph) []set {
	number := map[[2]int]int{}
	for at, e := range g.Edges {
		number[e] = at
	}
	near := bothWays(g.N, g.Edges)
	links := empties(len(g.Edges))
	for v := range g.N {
		// a ring goes through v-u and v-w just if a way leads from u to w that keeps off v
		left := all(g.N)
		delete(left, v)
		for _, piece := range pieces(near, left) {
			last := -1
			for _, u := range piece {
				at, ok := number[[2]int{min(u, v), max(u, v)}]
				if !ok {
					continue
				}
				if last >= 0 {
					join(links, last, at)
				}
				last = at
			}
		}
	}
	return links
}

// farFromFirst answers how far each node is from the first node of its component.
func farFromFirst(near []set) []int {
	far := make([]int, len(near))
	left := all(len(near))
	for v := range near {
		if !left.has(v) {
			continue
		}
		for u, steps := range take(near, left, v) {
			far[u] = steps
		}
	}
	return far
}

// oddRing goes from the two ends of e, which are equally far, towards the first node of their component, until both are at one node.
func oddRing(near []set, far []int, e [2]int) []int {
	u, v := e[0], e[1]
	var up, down []int
	for u != v {
		up = append(up, u)
		down = append(down, v)
		u, v = nearer(near, far, u), nearer(near, far, v)
	}
	slices.Reverse(down)
	return append(append(up, u), down...)
}

// nearer answers the least node with an edge to v that is a step less far: the least one, so that the order in which a set is gone through is not to be seen.
func nearer(near []set, far []int, v int) int {
	least := len(near)
	for u := range near[v] {
		if far[u] == far[v]-1 {
			least = min(least, u)
		}
	}
	return least
}

// reached answers of each node those to which a way leads from it, itself, too.
func reached(next []set) []map[int]int {
	reach := make([]map[int]int, len(next))
	for v := range next {
		reach[v] = take(next, all(len(next)), v)
	}
	return reach
}

// firstPart answers the strong part with the least first node of those in left to which no way leads from another one in left.
func firstPart(reach []map[int]int, left set) []int {
	for v := range reach {
		if left.has(v) && isFirst(reach, left, v) {
			return partOf(reach, v)
		}
	}
	return nil
}

// isFirst tells whether a way leads from v to each node in left from which one leads to v.
func isFirst(reach []map[int]int, left set, v int) bool {
	for u := range left {
		if leads(reach, u, v) && !leads(reach, v, u) {
			return false
		}
	}
	return true
}

// partOf answers the nodes to which a way leads from v, and from which one leads to v, rising.
func partOf(reach []map[int]int, v int) []int {
	var part []int
	for u := range reach {
		if leads(reach, u, v) && leads(reach, v, u) {
			part = append(part, u)
		}
	}
	return part
}

func leads(reach []map[int]int, from, to int) bool {
	_, ok := reach[from][to]
	return ok
}
