package width_test

import (
	"math/bits"
	"slices"

	"arbor/api"
)

// A second account of what the chapter says, as near to its words as may be, and no matter how slow.

// table tells of any two nodes whether they have an edge.
func table(g api.Graph) [][]bool {
	near := make([][]bool, g.N)
	for v := range near {
		near[v] = make([]bool, g.N)
	}
	for _, e := range g.Edges {
		near[e[0]][e[1]], near[e[1]][e[0]] = true, true
	}
	return near
}

// liesOver: a tree of bags; each edge has both of its nodes in some bag; each node is in some bag; and of the bags in which a node is, all but one have it in the bag above them, too.
func liesOver(g api.Graph, bags [][]int, up []int) bool {
	if len(bags) == 0 {
		return g.N == 0
	}
	if !leadToOneRoot(up) {
		return false
	}
	for _, e := range g.Edges {
		if !slices.ContainsFunc(bags, func(bag []int) bool { return slices.Contains(bag, e[0]) && slices.Contains(bag, e[1]) }) {
			return false
		}
	}
	for v := range g.N {
		in, on := 0, 0
		for at, bag := range bags {
			if slices.Contains(bag, v) {
				in++
				if up[at] >= 0 && slices.Contains(bags[up[at]], v) {
					on++
				}
			}
		}
		if in == 0 || in-on != 1 {
			return false
		}
	}
	return true
}

// leadToOneRoot begins at the root, and takes those along that lie right below one that is there.
func leadToOneRoot(up []int) bool {
	root := slices.Index(up, -1)
	if root < 0 {
		return false
	}
	there := []int{root}
	for at := 0; at < len(there); at++ {
		for bag, above := range up {
			if above == there[at] {
				there = append(there, bag)
			}
		}
	}
	return len(there) == len(up)
}

func widthOf(bags [][]int) int {
	wide := -1
	for _, bag := range bags {
		wide = max(wide, len(bag)-1)
	}
	return wide
}

// leastWidth goes from the root down: below a bag, each part that hangs together without it needs a bag with at least one node of its own, and with all nodes outside of it that are near it.
func leastWidth(g api.Graph) int {
	near := make([]uint, g.N)
	for _, e := range g.Edges {
		near[e[0]] |= 1 << e[1]
		near[e[1]] |= 1 << e[0]
	}
	for width := -1; ; width++ {
		if fitInto(near, width) {
			return width
		}
	}
}

func fitInto(near []uint, width int) bool {
	known := map[uint]int{}
	var fits func(part uint) bool
	fits = func(part uint) bool {
		if known[part] != 0 {
			return known[part] > 0
		}
		known[part] = -1
		room := width + 1 - bits.OnesCount(rim(near, part))
		for own := part; own > 0; own = (own - 1) & part {
			if bits.OnesCount(own) <= room && allOf(apart(near, part&^own), fits) {
				known[part] = 1
				break
			}
		}
		return known[part] > 0
	}
	return allOf(apart(near, 1<<len(near)-1), fits)
}

func allOf(parts []uint, holds func(part uint) bool) bool {
	return !slices.ContainsFunc(parts, func(part uint) bool { return !holds(part) })
}

// rim has the nodes outside of some that have an edge with one of them.
func rim(near []uint, some uint) uint {
	var out uint
	for v := range near {
		if some>>v&1 == 1 {
			out |= near[v]
		}
	}
	return out &^ some
}

// apart has the parts of some nodes that hang together.
func apart(near []uint, some uint) []uint {
	var out []uint
	for some > 0 {
		part := some & -some
		for rim(near, part)&some > 0 {
			part |= rim(near, part) & some
		}
		out = append(out, part)
		some &^= part
	}
	return out
}

// mostOf tries all sets of nodes, and answers the most that one without an edge weighs.
func mostOf(g api.Graph, weights []int) int {
	most := 0
	for set := range 1 << g.N {
		total := 0
		for v, weight := range weights {
			if set>>v&1 == 1 {
				total += weight
			}
		}
		if total > most && !slices.ContainsFunc(g.Edges, func(e [2]int) bool { return set>>e[0]&1 == 1 && set>>e[1]&1 == 1 }) {
			most = total
		}
	}
	return most
}

// mostByOne answers the same of more nodes: the one with the most edges is there or not, then the others.
func mostByOne(g api.Graph, weights []int) int {
	near := table(g)
	var from func(left []int) int
	from = func(left []int) int {
		most, many := -1, 0
		total := 0
		for _, v := range left {
			total += max(0, weights[v])
			if edges := len(thoseNear(near, v, left)); edges > many {
				most, many = v, edges
			}
		}
		if many == 0 {
			return total
		}
		others := slices.DeleteFunc(slices.Clone(left), func(u int) bool { return u == most })
		apart := slices.DeleteFunc(slices.Clone(others), func(u int) bool { return near[u][most] })
		return max(from(others), weights[most]+from(apart))
	}
	return from(upTo(g.N))
}

func thoseNear(near [][]bool, v int, some []int) []int {
	return slices.DeleteFunc(slices.Clone(some), func(u int) bool { return !near[u][v] })
}

// mostAlong answers the same of a graph without holes, by an order as that of chapter 10: each node takes what is left of its weight from those behind it that are near it; what was taken, together, is the most (a theorem of Frank's).
func mostAlong(g api.Graph, weights, order []int) int {
	near := table(g)
	left := slices.Clone(weights)
	total := 0
	for at, v := range order {
		taken := max(0, left[v])
		total += taken
		for _, u := range order[at:] {
			if near[u][v] {
				left[u] -= taken
			}
		}
	}
	return total
}

// faultOfGraph goes through what chapter 1 says of Check.
func faultOfGraph(g api.Graph) api.Fault {
	if g.N < 0 || g.N > api.MaxNodes || len(g.Edges) > api.MaxEdges {
		return fault(api.ErrMany, 0)
	}
	for at, e := range g.Edges {
		switch {
		case min(e[0], e[1]) < 0 || max(e[0], e[1]) >= g.N:
			return fault(api.ErrRange, at)
		case e[0] == e[1]:
			return fault(api.ErrLoop, at)
		case slices.Contains(g.Edges[:at], e) || slices.Contains(g.Edges[:at], [2]int{e[1], e[0]}):
			return fault(api.ErrTwice, at)
		}
	}
	return api.Fault{}
}

func faultOfLeast(g api.Graph) api.Fault {
	if f := faultOfGraph(g); f.Code != api.OK {
		return f
	}
	if g.N > api.MaxSmall {
		return fault(api.ErrMany, 0)
	}
	return api.Fault{}
}

func faultOfFits(g api.Graph, bags [][]int, up []int) api.Fault {
	if f := faultOfGraph(g); f.Code != api.OK {
		return f
	}
	if len(bags) > api.MaxNodes {
		return fault(api.ErrMany, 0)
	}
	if len(up) != len(bags) {
		return fault(api.ErrSize, 0)
	}
	for at, bag := range bags {
		for i, v := range bag {
			if v < 0 || v >= g.N {
				return fault(api.ErrRange, at)
			}
			if slices.Contains(bag[:i], v) {
				return fault(api.ErrTwice, at)
			}
		}
	}
	return api.Fault{}
}

func faultOfHeaviest(g api.Graph, weights []int, bags [][]int, up []int) api.Fault {
	if f := faultOfFits(g, bags, up); f.Code != api.OK {
		return f
	}
	if len(weights) != g.N {
		return fault(api.ErrSize, 1)
	}
	if at := slices.IndexFunc(weights, func(w int) bool { return w < -api.MaxValue || w > api.MaxValue }); at >= 0 {
		return fault(api.ErrRange, at)
	}
	if !liesOver(g, bags, up) {
		return fault(api.ErrForm, 0)
	}
	if at := slices.IndexFunc(bags, func(bag []int) bool { return len(bag) > api.MaxSmall }); at >= 0 {
		return fault(api.ErrMany, at)
	}
	return api.Fault{}
}
