package chords

import (
	"maps"
	"slices"

	"arbor/api"
)

// set has the nodes that are in it as its keys.
type set map[int]struct{}

func (s set) add(v int) { s[v] = struct{}{} }

func (s set) has(v int) bool {
	_, ok := s[v]
	return ok
}

// rising answers the nodes in their order, since a map is gone through in any.
func (s set) rising() []int { return slices.Sorted(maps.Keys(s)) }

// sift is the set of those nodes of which keep holds.
func (s set) sift(keep func(v int) bool) set {
	kept := set{}
	for v := range s {
		if keep(v) {
			kept.add(v)
		}
	}
	return kept
}

// all is the set of the nodes below n.
func all(n int) set {
	s := set{}
	for v := range n {
		s.add(v)
	}
	return s
}

// nearBy answers of each node of a graph without fault the set of those that have an edge with it.
func nearBy(g api.Graph) []set {
	near := make([]set, g.N)
	for v := range near {
		near[v] = set{}
	}
	for _, e := range g.Edges {
		near[e[0]].add(e[1])
		near[e[1]].add(e[0])
	}
	return near
}

// part takes the edge between two nodes away.
func part(near []set, u, v int) {
	delete(near[u], v)
	delete(near[v], u)
}

// isClique tells whether any two of the nodes have an edge.
func isClique(near []set, nodes set) bool {
	for u := range nodes {
		for v := range nodes {
			if u != v && !near[u].has(v) {
				return false
			}
		}
	}
	return true
}
