package plane_test

import (
	"cmp"
	"slices"

	"arbor/api"
)

// A second account of what the chapter says, as near to its words as may be, and no matter how slow.

// nearOf answers the nodes that have an edge with v, rising.
func nearOf(g api.Graph, v int) []int {
	var l []int
	for _, e := range g.Edges {
		if e[0] == v {
			l = append(l, e[1])
		}
		if e[1] == v {
			l = append(l, e[0])
		}
	}
	slices.Sort(l)
	return l
}

// isRound tells whether this is an order round the nodes: for each node the nodes near it, each once.
func isRound(g api.Graph, round [][]int) bool {
	if len(round) != g.N {
		return false
	}
	for v, l := range round {
		if !slices.Equal(slices.Sorted(slices.Values(l)), nearOf(g, v)) {
			return false
		}
	}
	return true
}

// dart goes from a node to a node near it.
type dart struct{ from, to int }

func compare(a, b dart) int {
	return cmp.Or(cmp.Compare(a.from, b.from), cmp.Compare(a.to, b.to))
}

// follower: the dart from a to b is followed by the one from b to the node that stands round b behind a.
func follower(round [][]int, d dart) dart {
	l := round[d.to]
	at := slices.Index(l, d.from) + 1
	if at == len(l) {
		at = 0
	}
	return dart{d.to, l[at]}
}

// dartsOf answers the darts from one on, till it would come again.
func dartsOf(round [][]int, first dart) []dart {
	l := []dart{first}
	for d := follower(round, first); d != first; d = follower(round, d) {
		l = append(l, d)
	}
	return l
}

// facesOf goes through all darts, and keeps what comes of those that are the least of their face.
func facesOf(round [][]int) [][]dart {
	var all []dart
	for v, l := range round {
		for _, u := range l {
			all = append(all, dart{v, u})
		}
	}
	slices.SortFunc(all, compare)
	var faces [][]dart
	for _, d := range all {
		if l := dartsOf(round, d); slices.MinFunc(l, compare) == d {
			faces = append(faces, l)
		}
	}
	return faces
}

// walksOf answers of each face the nodes from which its darts go.
func walksOf(faces [][]dart) [][]int {
	var out [][]int
	for _, l := range faces {
		var walk []int
		for _, d := range l {
			walk = append(walk, d.from)
		}
		out = append(out, walk)
	}
	return out
}

// componentsOf answers of each node the least one to which a way leads from it.
func componentsOf(g api.Graph) []int {
	least := make([]int, g.N)
	for v := range least {
		least[v] = v
	}
	for changed := true; changed; {
		changed = false
		for _, e := range g.Edges {
			if a, b := least[e[0]], least[e[1]]; a != b {
				least[e[0]], least[e[1]] = min(a, b), min(a, b)
				changed = true
			}
		}
	}
	return least
}

// isPlaneOrder: in each component with edges there are two more nodes and faces together than edges.
func isPlaneOrder(g api.Graph, round [][]int) bool {
	if !isRound(g, round) {
		return false
	}
	in := componentsOf(g)
	nodes, edges, faces := make([]int, g.N), make([]int, g.N), make([]int, g.N)
	for v := range g.N {
		nodes[in[v]]++
	}
	for _, e := range g.Edges {
		edges[in[e[0]]]++
	}
	for _, l := range facesOf(round) {
		faces[in[l[0].from]]++
	}
	for v := range g.N {
		if edges[v] > 0 && nodes[v]+faces[v] != edges[v]+2 {
			return false
		}
	}
	return true
}

// isInForm tells whether these are some of the edges of g, in form.
func isInForm(g api.Graph, edges [][2]int) bool {
	for i, e := range edges {
		if e[0] >= e[1] || !has(g, e[0], e[1]) || i > 0 && slices.Compare(edges[i-1][:], e[:]) >= 0 {
			return false
		}
	}
	return true
}

// isKuratowski tells whether these edges of g show that it has no plane order.
func isKuratowski(g api.Graph, bad [][2]int) bool {
	if !isInForm(g, bad) {
		return false
	}
	nodes, left, ok := without2(api.Graph{N: g.N, Edges: bad})
	return ok && (isFive(nodes, left) || isThreeAndThree(nodes, left))
}

// without2 leaves out the nodes with two edges, one by one: the two edges become one between the other two nodes. It answers the nodes that have edges in the end, and tells that no edge came twice or to itself.
func without2(g api.Graph) (nodes []int, left [][2]int, ok bool) {
	edges := slices.Clone(g.Edges)
	for v := range g.N {
		var others []int
		for _, e := range edges {
			if e[0] == v || e[1] == v {
				others = append(others, e[0]+e[1]-v)
			}
		}
		if len(others) == 2 {
			edges = slices.DeleteFunc(edges, func(e [2]int) bool { return e[0] == v || e[1] == v })
			edges = append(edges, [2]int{min(others[0], others[1]), max(others[0], others[1])})
		} else if len(others) > 0 {
			nodes = append(nodes, v)
		}
	}
	for i, e := range edges {
		if e[0] == e[1] || slices.Contains(edges[:i], e) {
			return nil, nil, false
		}
	}
	return nodes, edges, true
}

// isFive: all edges between five nodes.
func isFive(nodes []int, edges [][2]int) bool { return len(nodes) == 5 && len(edges) == 10 }

// isThreeAndThree: all edges between three nodes and three others.
func isThreeAndThree(nodes []int, edges [][2]int) bool {
	if len(nodes) != 6 || len(edges) != 9 {
		return false
	}
	g := api.Graph{N: api.MaxNodes, Edges: edges}
	others := nearOf(g, nodes[0])
	for _, v := range nodes {
		l := nearOf(g, v)
		if len(l) != 3 || !slices.Contains(others, v) && !slices.Equal(l, others) {
			return false
		}
	}
	return true
}
