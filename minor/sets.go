package minor

import (
	"iter"
	"math/bits"

	"arbor/api"
)

// set has a bit for each of a few nodes.
type set uint32

func only(v int) set { return 1 << v }

// below is the set of the nodes below n.
func below(n int) set { return only(n) - 1 }

func (s set) size() int { return bits.OnesCount32(uint32(s)) }

// least answers the least node of a set that has one.
func (s set) least() int { return bits.TrailingZeros32(uint32(s)) }

// nodes answers what is in the set, rising.
func (s set) nodes() []int {
	var out []int
	for ; s != 0; s &= s - 1 {
		out = append(out, s.least())
	}
	return out
}

// parts goes through all sets that have nodes of s alone, from the empty one to s, so that those with low nodes come early.
func (s set) parts() iter.Seq[set] {
	return func(yield func(set) bool) {
		for part := set(0); yield(part) && part != s; {
			// what is not in s carries over to the next bit that is
			part = (part - s) & s
		}
	}
}

// nearSets answers of each node of a small graph without fault the set of those that have an edge with it.
func nearSets(g api.Graph) []set {
	near := make([]set, g.N)
	for _, e := range g.Edges {
		near[e[0]] |= only(e[1])
		near[e[1]] |= only(e[0])
	}
	return near
}

// nearAny answers the set of all that have an edge with one of s.
func nearAny(near []set, s set) set {
	var out set
	for ; s != 0; s &= s - 1 {
		out |= near[s.least()]
	}
	return out
}

// hangsTogether tells whether all of s, which has a node, are reached from its least one through s.
func hangsTogether(near []set, s set) bool {
	reached := only(s.least())
	for {
		more := reached | nearAny(near, reached)&s
		if more == reached {
			return reached == s
		}
		reached = more
	}
}

// drawnTogether answers the graph that has a node for each of the pieces, and an edge where one goes between two of them.
func drawnTogether(near, pieces []set) []set {
	out := make([]set, len(pieces))
	for i, piece := range pieces {
		about := nearAny(near, piece)
		for j, other := range pieces {
			if j != i && about&other != 0 {
				out[i] |= only(j)
			}
		}
	}
	return out
}
