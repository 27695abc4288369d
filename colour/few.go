package colour

import "slices"

// coat is the colours that the nodes have so far.
type coat struct {
	near    [][]int
	colours []int // of each node its colour, or none
}

// fewColours answers a colouring of a graph of one component, with three edges or more at some node, that has not all edges. Each node gets its colour while one near it has none, so that at most one less than the most edges of a node can be in its way; but for the last node, at which something else must spare a colour: it has fewer edges, or it is a cut, or two nodes near it have one colour.
func fewColours(near [][]int, cuts []int) []int {
	c := coat{near: near, colours: slices.Repeat([]int{none}, len(near))}
	many := most(near)
	last := slices.IndexFunc(near, func(nodes []int) bool { return len(nodes) < many })
	switch {
	case last != none:
		c.fill(last)
	case len(cuts) > 0:
		last = cuts[0]
		c.fill(last)
		c.spare(last)
	default:
		var a, b int
		last, a, b = fork(near)
		c.colours[a], c.colours[b] = 0, 0
		c.fill(last)
	}
	c.colours[last] = c.unused(near[last])
	return c.colours
}

// fill gives a colour to all nodes without one but the last: the farther ones first, so that the next node on the way to the last one has none as yet.
func (c *coat) fill(last int) {
	nodes := reach(c.near, last, func(v int) bool { return c.colours[v] == none })
	for _, v := range slices.Backward(nodes[1:]) {
		c.colours[v] = c.unused(c.near[v])
	}
}

// unused answers the least colour that none of the nodes has.
func (c *coat) unused(nodes []int) int {
	colour := 0
	for slices.ContainsFunc(nodes, func(v int) bool { return c.colours[v] == colour }) {
		colour++
	}
	return colour
}

// spare takes colour 0 from the nodes near a cut: in each piece that hangs together without it, 0 and the least colour that none of them has change places (if that is 0 itself, nothing changes). The cut has fewer edges into one piece than it has in all, so that colour is no new one.
func (c *coat) spare(cut int) {
	for _, u := range c.near[cut] {
		piece := reach(c.near, u, func(v int) bool { return v != cut })
		nearCut := slices.DeleteFunc(slices.Clone(piece), func(v int) bool { return !slices.Contains(c.near[cut], v) })
		c.change(piece, 0, c.unused(nearCut))
	}
}

// change lets two colours change places at these nodes.
func (c *coat) change(nodes []int, one, other int) {
	for _, v := range nodes {
		switch c.colours[v] {
		case one:
			c.colours[v] = other
		case other:
			c.colours[v] = one
		}
	}
}

// fork answers a node, and two near it without an edge between them, so that all others hang together without the two. There are such nodes where no node is a cut, each one has three edges or more, and some two have no edge.
func fork(near [][]int) (v, a, b int) {
	for v, nodes := range near {
		for i, a := range nodes {
			for _, b := range nodes[:i] {
				if !slices.Contains(near[a], b) && hangTogetherWithout(near, v, a, b) {
					return v, a, b
				}
			}
		}
	}
	return none, none, none
}

// hangTogetherWithout tells whether ways lead from v to all other nodes that keep off a and b.
func hangTogetherWithout(near [][]int, v, a, b int) bool {
	return len(reach(near, v, func(u int) bool { return u != a && u != b })) == len(near)-2
}

// reach answers the nodes to which ways through open nodes lead from one, itself first, the nearer ones ahead of the farther ones.
func reach(near [][]int, from int, open func(v int) bool) []int {
	seen := make([]bool, len(near))
	seen[from] = true
	nodes := []int{from}
	for at := 0; at < len(nodes); at++ {
		for _, u := range near[nodes[at]] {
			if !seen[u] && open(u) {
				seen[u] = true
				nodes = append(nodes, u)
			}
		}
	}
	return nodes
}
