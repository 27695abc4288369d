package plane

import (
	"math/bits"

	"arbor/api"
)

const wordBits = 64

// set has a bit for each node, 1 if it is in the set: one face after the other is asked whether it has some nodes, and that is to be quick.
type set [(api.MaxNodes + wordBits - 1) / wordBits]uint64

func (s *set) add(v int) { s[v/wordBits] |= 1 << (v % wordBits) }

func (s *set) drop(v int) { s[v/wordBits] &^= 1 << (v % wordBits) }

func (s set) has(v int) bool { return s[v/wordBits]>>(v%wordBits)&1 == 1 }

func (s set) isEmpty() bool { return s == set{} }

// both has the nodes that are in s and in t.
func (s set) both(t set) set {
	for i := range s {
		s[i] &= t[i]
	}
	return s
}

// either has the nodes that are in s or in t.
func (s set) either(t set) set {
	for i := range s {
		s[i] |= t[i]
	}
	return s
}

// less has the nodes of s that are not in t.
func (s set) less(t set) set {
	for i := range s {
		s[i] &^= t[i]
	}
	return s
}

func (s set) count() int {
	many := 0
	for _, word := range s {
		many += bits.OnesCount64(word)
	}
	return many
}

// first answers the least node of a set that has one.
func (s set) first() int {
	at := 0
	for s[at] == 0 {
		at++
	}
	return at*wordBits + bits.TrailingZeros64(s[at])
}

// rising goes through the nodes in their order.
func (s set) rising(yield func(v int) bool) {
	for !s.isEmpty() {
		v := s.first()
		s.drop(v)
		if !yield(v) {
			return
		}
	}
}

// setOf has the nodes of a list.
func setOf(nodes []int) set {
	var s set
	for _, v := range nodes {
		s.add(v)
	}
	return s
}

// nearBy answers of each of n nodes the set of those that have an edge with it.
func nearBy(n int, edges [][2]int) []set {
	near := make([]set, n)
	for _, e := range edges {
		near[e[0]].add(e[1])
		near[e[1]].add(e[0])
	}
	return near
}

// part takes the edge between two nodes away.
func part(near []set, u, v int) {
	near[u].drop(v)
	near[v].drop(u)
}
