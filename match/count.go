package match

import (
	"math/bits"

	"arbor/api"
)

// nearSets has of each node the set of those that it has an edge with: bit v stands for node v.
func nearSets(g api.Graph) []uint32 {
	near := make([]uint32, g.N)
	for _, e := range g.Edges {
		near[e[0]] |= 1 << e[1]
		near[e[1]] |= 1 << e[0]
	}
	return near
}

// countWhole is how many matchings go to all nodes. The first node that is left is paired with each one that it can be paired with; what is left behind is the same set again and again, so that each set's number is kept.
func countWhole(near []uint32) uint64 {
	known := map[uint32]uint64{0: 1}
	var count func(left uint32) uint64
	count = func(left uint32) uint64 {
		if number, ok := known[left]; ok {
			return number
		}
		rest := left & (left - 1)
		number := uint64(0)
		for others := near[bits.TrailingZeros32(left)] & rest; others != 0; others &= others - 1 {
			number += count(rest &^ (others & -others))
		}
		known[left] = number
		return number
	}
	return count(1<<len(near) - 1)
}
