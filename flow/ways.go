package flow

import (
	"slices"

	"arbor/api"
)

// set has the nodes that are in it as its keys.
type set map[int]struct{}

func (s set) add(v int) { s[v] = struct{}{} }

// takeLeast takes a node out of a set that has one: the least, so that the order in which a map is gone through is not to be seen.
func (s set) takeLeast() int {
	least := -1
	for v := range s {
		if least < 0 || v < least {
			least = v
		}
	}
	delete(s, least)
	return least
}

func empties(n int) []set {
	sets := make([]set, n)
	for v := range sets {
		sets[v] = set{}
	}
	return sets
}

// steps answers of each node the set of those to which something goes from it, along edges that take 1 either way: one pipe of the two is full then.
func (p *pipes) steps(g api.Graph) []set {
	next := empties(g.N)
	for at, e := range g.Edges {
		there, back := laid(at)
		if p.room[there] == 0 {
			next[e[0]].add(e[1])
		}
		if p.room[back] == 0 {
			next[e[1]].add(e[0])
		}
	}
	return next
}

// unwind answers so many ways from s to t, made of the steps: at each node but these as many of them end as begin, and at s so many more begin than end.
func unwind(next []set, s, t, many int) [][]int {
	var ways [][]int
	for range many {
		ways = append(ways, takeWay(next, s, t))
	}
	return ways
}

// takeWay takes the steps of a way out of their sets, so that no other way takes them again.
func takeWay(next []set, s, t int) []int {
	way := []int{s}
	for v := s; v != t; {
		v = next[v].takeLeast()
		// steps that led round to a node of the way are left out
		if at := slices.Index(way, v); at >= 0 {
			way = way[:at]
		}
		way = append(way, v)
	}
	return way
}

// Each node of a graph is a gate, of two nodes: one where all comes in, one where all goes out. What goes through the gate goes from the one to the other.

func enters(v int) int { return 2 * v }

func leaves(v int) int { return 2*v + 1 }

// gatesOf has pipes through which ways from s to t go that share no other node. A gate lets 1 through, that of s and of t nothing. The edges' pipes take more than ever comes, so that a cut is made of gates.
func gatesOf(g api.Graph, s, t int) *pipes {
	p := newPipes(2 * g.N)
	for _, e := range g.Edges {
		p.lay(leaves(e[0]), enters(e[1]), g.N, 0)
		p.lay(leaves(e[1]), enters(e[0]), g.N, 0)
	}
	for v := range g.N {
		if v != s && v != t {
			p.lay(enters(v), leaves(v), 1, 0)
		}
	}
	return p
}

// gateSteps answers of each of n nodes the set of those to which something goes from its gate.
func (p *pipes) gateSteps(n int) []set {
	next := empties(n)
	for v := range n {
		for _, pipe := range p.out[leaves(v)] {
			if u := p.to[pipe] / 2; u != v && p.room[twin(pipe)] > 0 {
				next[v].add(u)
			}
		}
	}
	return next
}
