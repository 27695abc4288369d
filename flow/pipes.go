package flow

import (
	"math"

	"arbor/api"
)

// pipes come in twos, one there and its twin back: what goes along one makes as much room in the other.
type pipes struct {
	out  [][]int // of each node the pipes that leave it
	to   []int   // of each pipe the node that it leads to
	room []int   // of each pipe how much more can go along it
}

// unreached: no way with room leads to this node.
const unreached = -1

// laid answers the two pipes that were laid as the two of this number.
func laid(at int) (there, back int) { return 2 * at, 2*at + 1 }

func twin(pipe int) int { return pipe ^ 1 }

func newPipes(nodes int) *pipes { return &pipes{out: make([][]int, nodes)} }

// pipesOf has two pipes for each arc of a net; nothing goes along them as yet.
func pipesOf(n api.Net) *pipes {
	p := newPipes(n.N)
	for _, arc := range n.Arcs {
		p.lay(arc.From, arc.To, arc.Cap, 0)
	}
	return p
}

// pipesAlong has two pipes for each edge of a graph, each of which can take its weight.
func pipesAlong(g api.Graph, weights []int) *pipes {
	p := newPipes(g.N)
	for at, e := range g.Edges {
		p.lay(e[0], e[1], weights[at], weights[at])
	}
	return p
}

// lay lays two pipes: from u to v with so much room, and back.
func (p *pipes) lay(u, v, room, back int) {
	p.out[u] = append(p.out[u], len(p.to))
	p.out[v] = append(p.out[v], len(p.to)+1)
	p.to = append(p.to, v, u)
	p.room = append(p.room, room, back)
}

// held answers how much goes along the arc of this number: its pipe back began without room.
func (p *pipes) held(at int) int {
	_, back := laid(at)
	return p.room[back]
}

// fill sends as much as can go from s to t, and answers how much this is, and how far from s each node is then, on ways with room. The nodes that are not unreached are a side that shows that no more can go: no pipe out of them has room.
func (p *pipes) fill(s, t int) (total int, far []int) {
	for {
		far = p.farFrom(s)
		if far[t] == unreached {
			return total, far
		}
		total += p.send(s, t, far)
	}
}

func (p *pipes) farFrom(s int) []int {
	far := make([]int, len(p.out))
	for v := range far {
		far[v] = unreached
	}
	far[s] = 0
	queue := []int{s}
	for at := 0; at < len(queue); at++ {
		v := queue[at]
		for _, pipe := range p.out[v] {
			if u := p.to[pipe]; p.room[pipe] > 0 && far[u] == unreached {
				far[u] = far[v] + 1
				queue = append(queue, u)
			}
		}
	}
	return far
}

// send sends what can go along the shortest ways, until none of them has room. All ways with room are longer then, so that send is called less often than there are nodes.
func (p *pipes) send(s, t int, far []int) int {
	full := make([]int, len(p.out)) // of each node how many of its pipes, from the first one on, lead to t no longer
	var push func(v, most int) int
	push = func(v, most int) int {
		if v == t {
			return most
		}
		sent := 0
		for ; full[v] < len(p.out[v]); full[v]++ {
			pipe := p.out[v][full[v]]
			if p.room[pipe] == 0 || far[p.to[pipe]] != far[v]+1 {
				continue
			}
			part := push(p.to[pipe], min(most-sent, p.room[pipe]))
			p.room[pipe] -= part
			p.room[twin(pipe)] += part
			sent += part
			if sent == most {
				break // this pipe may have room left
			}
		}
		return sent
	}
	return push(s, math.MaxInt)
}
