package flow_test

import (
	"slices"

	"arbor/api"
)

// A second account of what the chapter says, as near to its words as may be, and no matter how slow.

// leastCut goes through all sides that have s and not t, and answers the least of what the arcs out of one hold: no more can go from s to t, and so much can.
func leastCut(n api.Net, s, t int) int {
	least := -1
	for side := range 1 << n.N {
		if side>>s&1 == 0 || side>>t&1 == 1 {
			continue
		}
		sum := 0
		for _, arc := range n.Arcs {
			if side>>arc.From&1 == 1 && side>>arc.To&1 == 0 {
				sum += arc.Cap
			}
		}
		if least < 0 || sum < least {
			least = sum
		}
	}
	return least
}

// eitherWay has two arcs for each edge of g, one each way.
func eitherWay(g api.Graph, weights []int) api.Net {
	n := api.Net{N: g.N}
	for at, e := range g.Edges {
		n.Arcs = append(n.Arcs, api.Arc{From: e[0], To: e[1], Cap: weights[at]}, api.Arc{From: e[1], To: e[0], Cap: weights[at]})
	}
	return n
}

// mostBetween sends along one way after the other, as long as there is one with room.
func mostBetween(n api.Net, s, t int) int {
	room := make([][]int, n.N)
	for v := range room {
		room[v] = make([]int, n.N)
	}
	for _, arc := range n.Arcs {
		room[arc.From][arc.To] += arc.Cap
	}
	total := 0
	for {
		way := wayWithRoom(room, s, t)
		if way == nil {
			return total
		}
		least := room[way[0]][way[1]]
		for i := 1; i < len(way); i++ {
			least = min(least, room[way[i-1]][way[i]])
		}
		for i := 1; i < len(way); i++ {
			room[way[i-1]][way[i]] -= least
			room[way[i]][way[i-1]] += least
		}
		total += least
	}
}

// wayWithRoom answers a shortest way from s to t; nil: there is none.
func wayWithRoom(room [][]int, s, t int) []int {
	from := slices.Repeat([]int{-1}, len(room))
	from[s] = s
	queue := []int{s}
	for at := 0; at < len(queue); at++ {
		for u, r := range room[queue[at]] {
			if r > 0 && from[u] < 0 {
				from[u] = queue[at]
				queue = append(queue, u)
			}
		}
	}
	if from[t] < 0 {
		return nil
	}
	way := []int{t}
	for v := t; v != s; v = from[v] {
		way = append(way, from[v])
	}
	slices.Reverse(way)
	return way
}

// leads tells whether a way leads from s to t that keeps off these edges and nodes.
func leads(g api.Graph, s, t int, edges [][2]int, nodes []int) bool {
	reached := make([]bool, g.N)
	reached[s] = true
	for changed := true; changed; {
		changed = false
		for _, e := range g.Edges {
			shut := slices.Contains(edges, e) || slices.Contains(edges, [2]int{e[1], e[0]}) || slices.Contains(nodes, e[0]) || slices.Contains(nodes, e[1])
			if !shut && reached[e[0]] != reached[e[1]] {
				reached[e[0]], reached[e[1]], changed = true, true, true
			}
		}
	}
	return reached[t]
}

// leastOnWay answers the least cut on the way from u to v in a tree; upward: what is above each node, itself first.
func leastOnWay(upward func(v int) []int, cut []int, u, v int) int {
	a, b := upward(u), upward(v)
	least := -1
	for _, l := range [][2][]int{{a, b}, {b, a}} {
		for _, w := range l[0] {
			if !slices.Contains(l[1], w) && (least < 0 || cut[w] < least) {
				least = cut[w]
			}
		}
	}
	return least
}
