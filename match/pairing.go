package match

import "arbor/api"

// pairing is a matching that grows. From a lone node, the root, ways are looked for on which every other edge is a pair: one to another lone node makes the matching greater, by an edge.
type pairing struct {
	near [][]int
	mate []int // of each node the one that it is paired with, or none
	search
}

// search is what is known of the ways from one root on.
type search struct {
	even  []bool // does a way of an even number of edges lead to the node? Its last edge is a pair.
	from  []int  // the node ahead of this one on a way of an odd number of edges, or none
	base  []int  // the node by which all ways come into the flower that this node is in; of one that is in no flower: itself
	queue []int  // the even nodes, in the order in which they were found
}

const none = -1

// pairUp answers a greatest matching of g. A root from which nothing is found need not be tried again: no way leads from it later on, either.
func pairUp(g api.Graph) *pairing {
	p := &pairing{near: make([][]int, g.N), mate: make([]int, g.N)}
	for v := range p.mate {
		p.mate[v] = none
	}
	for _, e := range g.Edges {
		p.near[e[0]] = append(p.near[e[0]], e[1])
		p.near[e[1]] = append(p.near[e[1]], e[0])
	}
	for root := range p.mate {
		if p.mate[root] == none {
			p.turn(p.seek(root))
		}
	}
	return p
}

// pairs has the edges of the matching, in form.
func (p *pairing) pairs() [][2]int {
	var pairs [][2]int
	for v, u := range p.mate {
		if v < u {
			pairs = append(pairs, [2]int{v, u})
		}
	}
	return pairs
}

// turn makes pairs of the edges that are none, and none of the pairs, on the way that ends at this lone node.
func (p *pairing) turn(end int) {
	for end != none {
		v := p.from[end]
		next := p.mate[v]
		p.mate[end], p.mate[v] = v, end
		end = next
	}
}

// split tells of a greatest matching which nodes are d, a and c. A node is alone in some greatest matching just if an even way leads to it from one that is alone in this one.
func (p *pairing) split() (d, a, c []int) {
	const inA, inD = 1, 2
	kind := make([]int, len(p.mate))
	for root, mate := range p.mate {
		if mate != none {
			continue
		}
		p.seek(root)
		for _, v := range p.queue {
			kind[v] = inD
			for _, u := range p.near[v] {
				kind[u] = max(kind[u], inA)
			}
		}
	}
	for v, k := range kind {
		switch k {
		case inD:
			d = append(d, v)
		case inA:
			a = append(a, v)
		default:
			c = append(c, v)
		}
	}
	return d, a, c
}
