package width

import (
	"math/bits"
	"slices"

	"arbor/api"
)

const wordBits = 64

// set has a bit for each node, 1 if it is in the set, so that sets can be keys of maps.
type set [(api.MaxNodes + wordBits - 1) / wordBits]uint64

func (s *set) add(v int) { s[v/wordBits] |= 1 << (v % wordBits) }

func (s *set) drop(v int) { s[v/wordBits] &^= 1 << (v % wordBits) }

func (s set) has(v int) bool { return s[v/wordBits]>>(v%wordBits)&1 == 1 }

// with has v besides.
func (s set) with(v int) set {
	s.add(v)
	return s
}

// without has all but v.
func (s set) without(v int) set {
	s.drop(v)
	return s
}

// both has the nodes that are in s and in t.
func (s set) both(t set) set {
	for i := range s {
		s[i] &= t[i]
	}
	return s
}

// either has the nodes that are in s or in t.
func (s set) either(t set) set {
	for i := range s {
		s[i] |= t[i]
	}
	return s
}

// less has the nodes of s that are not in t.
func (s set) less(t set) set {
	for i := range s {
		s[i] &^= t[i]
	}
	return s
}

func (s set) isEmpty() bool { return s == set{} }

// isAhead puts sets in an order, no matter which, so that of two that are equally good the same one is taken each time.
func (s set) isAhead(t set) bool { return slices.Compare(s[:], t[:]) < 0 }

func (s set) size() int {
	many := 0
	for _, word := range s {
		many += bits.OnesCount64(word)
	}
	return many
}

// rising answers the nodes in their order.
func (s set) rising() []int {
	var out []int
	for i, word := range s {
		for ; word != 0; word &= word - 1 {
			out = append(out, i*wordBits+bits.TrailingZeros64(word))
		}
	}
	return out
}

// all is the set of the nodes below n.
func all(n int) set {
	var s set
	for v := range n {
		s.add(v)
	}
	return s
}

// nearBy answers of each node of a graph without fault the set of those that have an edge with it.
func nearBy(g api.Graph) []set {
	near := make([]set, g.N)
	for _, e := range g.Edges {
		near[e[0]].add(e[1])
		near[e[1]].add(e[0])
	}
	return near
}
