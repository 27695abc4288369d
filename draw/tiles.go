package draw

import (
	"slices"

	"arbor/api"
	"arbor/parts"
	"arbor/plane"
)

// tiling is a graph with a plane order of which all faces are triangles.
type tiling struct {
	near  [][]bool
	third map[[2]int]int // of each dart the third node of its face
	outer []int          // the face that is to be outside
}

// tile adds edges to a graph of three nodes or more, until its faces are triangles; or tells that it has no plane order. A clear drawing of more edges is one of fewer, too.
func tile(g api.Graph) (tiling, bool) {
	whole := joined(g)
	round, bad, _ := plane.Embed(whole)
	if len(bad) > 0 {
		return tiling{}, false
	}
	faces, _ := plane.Faces(whole, round)
	t := tiling{near: nearBy(whole), third: map[[2]int]int{}}
	var cut func(walk []int)
	cut = func(walk []int) {
		if len(walk) == 3 {
			t.lay(walk)
			return
		}
		i, j := t.apart(walk)
		t.join(walk[i], walk[j])
		cut(walk[i : j+1])
		cut(slices.Concat(walk[j:], walk[:i+1]))
	}
	for _, walk := range faces {
		cut(walk)
	}
	return t, true
}

// joined is g with an edge from each component to the next one, so that all hangs together; there is a plane order just if g has one.
func joined(g api.Graph) api.Graph {
	lists, _ := parts.Components(g)
	edges := slices.Clone(g.Edges)
	for i := 1; i < len(lists); i++ {
		edges = append(edges, [2]int{lists[i-1][0], lists[i][0]})
	}
	return api.Graph{N: g.N, Edges: edges}
}

// nearBy tells of each two nodes whether they have an edge.
func nearBy(g api.Graph) [][]bool {
	near := make([][]bool, g.N)
	for v := range near {
		near[v] = make([]bool, g.N)
	}
	for _, e := range g.Edges {
		near[e[0]][e[1]], near[e[1]][e[0]] = true, true
	}
	return near
}

func (t *tiling) join(u, v int) {
	t.near[u][v], t.near[v][u] = true, true
}

// lay keeps a triangle; the last one is to be outside, but any would do.
func (t *tiling) lay(walk []int) {
	a, b, c := walk[0], walk[1], walk[2]
	t.third[[2]int{a, b}] = c
	t.third[[2]int{b, c}] = a
	t.third[[2]int{c, a}] = b
	t.outer = walk
}

// apart answers the places of two nodes of a face that have no edge. Where a face has more than three darts, there are two: if it comes to a node twice, the ones behind it each time, which hang together through that node alone; and if it has four nodes or more, no two edges outside of it can join the first with the third one, and the second with the fourth one.
func (t *tiling) apart(walk []int) (i, j int) {
	for j, v := range walk {
		i := slices.IndexFunc(walk[:j], func(u int) bool { return u != v && !t.near[u][v] })
		if i >= 0 {
			return i, j
		}
	}
	return 0, 2 // does not come to pass
}
