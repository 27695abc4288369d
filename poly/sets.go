package poly

import (
	"math/bits"

	"arbor/api"
)

// set has a bit for each of a few nodes.
type set uint32

func only(v int) set { return 1 << v }

// below is the set of the nodes below n.
func below(n int) set { return only(n) - 1 }

func (s set) has(v int) bool { return s&only(v) != 0 }

// least answers the least node of a set that has one.
func (s set) least() int { return bits.TrailingZeros32(uint32(s)) }

// nearSets answers of each node of a small graph without fault the set of those that have an edge with it.
func nearSets(g api.Graph) []set {
	near := make([]set, g.N)
	for _, e := range g.Edges {
		near[e[0]] |= only(e[1])
		near[e[1]] |= only(e[0])
	}
	return near
}

// tally has how often 0, 1, .. were counted, up to the greatest one that was.
type tally []int

func (t *tally) add(size int) {
	for len(*t) <= size {
		*t = append(*t, 0)
	}
	(*t)[size]++
}
