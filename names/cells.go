package names

import (
	"maps"
	"math/bits"
	"slices"

	"arbor/api"
	"arbor/graph"
)

// set has a bit for each of a few nodes.
type set uint32

func only(v int) set { return 1 << v }

func (s set) size() int { return bits.OnesCount32(uint32(s)) }

// least answers the least node of a set that has one.
func (s set) least() int { return bits.TrailingZeros32(uint32(s)) }

// nodes answers what is in a set, rising.
func (s set) nodes() []int {
	var out []int
	for ; s != 0; s &= s - 1 {
		out = append(out, s.least())
	}
	return out
}

// open answers of each node of g the set of those that have an edge with it; a fault of g comes first, then that it has too many nodes.
func open(g api.Graph) ([]set, api.Fault) {
	if f := graph.Check(g); f.Code != api.OK {
		return nil, f
	}
	if g.N > 2*api.MaxSmall {
		return nil, api.Fault{Code: api.ErrMany}
	}
	near := make([]set, g.N)
	for _, e := range g.Edges {
		near[e[0]] |= only(e[1])
		near[e[1]] |= only(e[0])
	}
	return near, api.Fault{}
}

// cells has all nodes, parted into sets that stand in an order; those of one set have not been told apart as yet. Nothing below asks for a node's number to tell it from another one: of a graph with other numbers comes the same, with these numbers.
type cells []set

// oneCell has the nodes below n together.
func oneCell(n int) cells {
	if n == 0 {
		return nil
	}
	return cells{only(n) - 1}
}

// settled parts the sets on and on, until all nodes of one have equally many near ones in each.
func (c cells) settled(near []set) cells {
	for {
		finer := c.parted(near)
		if len(finer) == len(c) {
			return c
		}
		c = finer
	}
}

// parted parts each set once, by how many near ones its nodes have in each.
func (c cells) parted(near []set) cells {
	var finer cells
	for _, s := range c {
		alike := map[string]set{}
		for _, v := range s.nodes() {
			alike[c.counts(near[v])] |= only(v)
		}
		for _, counts := range slices.Sorted(maps.Keys(alike)) {
			finer = append(finer, alike[counts])
		}
	}
	return finer
}

// counts tells how many of some nodes are in each set.
func (c cells) counts(some set) string {
	out := make([]byte, len(c))
	for i, s := range c {
		out[i] = byte((s & some).size())
	}
	return string(out)
}

// firstOpen answers where the first set of more than one node stands, or -1.
func (c cells) firstOpen() int {
	return slices.IndexFunc(c, func(s set) bool { return s.size() > 1 })
}

// apart takes v out of its set, and puts it ahead of the others.
func (c cells) apart(at, v int) cells {
	return slices.Concat(c[:at], cells{only(v), c[at] &^ only(v)}, c[at+1:])
}

// shape tells of settled sets how great they are, and how many near ones their nodes have in each. If each node is alone, that is the whole graph, with places for numbers.
func (c cells) shape(near []set) string {
	var out []byte
	for _, s := range c {
		out = append(out, byte(s.size()))
		out = append(out, c.counts(near[s.least()])...)
	}
	return string(out)
}

// places answers, where each node is alone, in which place it stands.
func (c cells) places() []int {
	out := make([]int, len(c))
	for place, s := range c {
		out[s.least()] = place
	}
	return out
}
