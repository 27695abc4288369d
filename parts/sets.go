package parts

import (
	"maps"
	"slices"
)

// set has the numbers that are in it as its keys.
type set map[int]struct{}

func (s set) add(v int) { s[v] = struct{}{} }

func (s set) has(v int) bool {
	_, ok := s[v]
	return ok
}

// all is the set of the numbers below n.
func all(n int) set {
	s := set{}
	for v := range n {
		s.add(v)
	}
	return s
}

func empties(n int) []set {
	sets := make([]set, n)
	for v := range sets {
		sets[v] = set{}
	}
	return sets
}

// oneWay answers of each of n nodes the set of those to which an arc leads from it.
func oneWay(n int, arcs [][2]int) []set {
	next := empties(n)
	for _, arc := range arcs {
		next[arc[0]].add(arc[1])
	}
	return next
}

// bothWays answers of each of n nodes the set of those with which it has an edge.
func bothWays(n int, edges [][2]int) []set {
	near := empties(n)
	for _, e := range edges {
		join(near, e[0], e[1])
	}
	return near
}

func join(near []set, u, v int) {
	near[u].add(v)
	near[v].add(u)
}

// nodesOf is the set of the nodes that the edges go to.
func nodesOf(edges [][2]int) set {
	s := set{}
	for _, e := range edges {
		s.add(e[0])
		s.add(e[1])
	}
	return s
}

// take takes v, and all to which a way through left leads from it, out of left, and answers them with how many steps each is from v.
func take(next []set, left set, v int) map[int]int {
	delete(left, v)
	far := map[int]int{v: 0}
	queue := []int{v}
	for at := 0; at < len(queue); at++ {
		u := queue[at]
		for w := range next[u] {
			if left.has(w) {
				delete(left, w)
				far[w] = far[u] + 1
				queue = append(queue, w)
			}
		}
	}
	return far
}

// pieces takes all out of left, and answers what hangs together in it, each piece rising, in the order of their first ones.
func pieces(near []set, left set) [][]int {
	var out [][]int
	for v := range near {
		if left.has(v) {
			out = append(out, rising(take(near, left, v)))
		}
	}
	return out
}

// rising answers the keys in their order, since a map is gone through in any.
func rising(far map[int]int) []int {
	return slices.Sorted(maps.Keys(far))
}
