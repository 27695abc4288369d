package colour

import (
	"math/bits"

	"arbor/api"
	"arbor/graph"
)

// set has a bit for each of a few nodes.
type set uint32

func only(v int) set { return 1 << v }

// below is the set of the nodes below n.
func below(n int) set { return only(n) - 1 }

func (s set) size() int { return bits.OnesCount32(uint32(s)) }

// least answers the least node of a set that has one.
func (s set) least() int { return bits.TrailingZeros32(uint32(s)) }

// openSmall answers of each node of g the set of those that have an edge with it; a fault of g comes first, then that it has too many nodes.
func openSmall(g api.Graph, limit int) ([]set, api.Fault) {
	if f := graph.Check(g); f.Code != api.OK {
		return nil, f
	}
	if g.N > limit {
		return nil, api.Fault{Code: api.ErrMany}
	}
	near := make([]set, g.N)
	for _, e := range g.Edges {
		near[e[0]] |= only(e[1])
		near[e[1]] |= only(e[0])
	}
	return near, api.Fault{}
}

// nearBy answers of each node of a graph without fault those that have an edge with it.
func nearBy(g api.Graph) [][]int {
	near := make([][]int, g.N)
	for _, e := range g.Edges {
		near[e[0]] = append(near[e[0]], e[1])
		near[e[1]] = append(near[e[1]], e[0])
	}
	return near
}

// most answers the greatest number of edges that a node has.
func most(near [][]int) int {
	many := 0
	for _, nodes := range near {
		many = max(many, len(nodes))
	}
	return many
}
