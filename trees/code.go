package trees

import (
	"slices"
	"strings"

	"arbor/api"
	"arbor/parts"
)

// openTree answers of each node of a tree those that have an edge with it.
func openTree(g api.Graph) ([][]int, api.Fault) {
	lists, f := parts.Components(g)
	if f.Code != api.OK {
		return nil, f
	}
	if len(lists) != 1 || len(g.Edges) != g.N-1 {
		return nil, api.Fault{Code: api.ErrKind}
	}
	near := make([][]int, g.N)
	for _, e := range g.Edges {
		near[e[0]] = append(near[e[0]], e[1])
		near[e[1]] = append(near[e[1]], e[0])
	}
	return near, api.Fault{}
}

// codeOf takes leaves away from a tree, until two nodes are left.
func codeOf(near [][]int) []int {
	left := make([]int, len(near))
	for v := range near {
		left[v] = len(near[v])
	}
	var code []int
	for range len(near) - 2 {
		leaf := slices.Index(left, 1)
		left[leaf] = 0
		at := slices.IndexFunc(near[leaf], func(v int) bool { return left[v] > 0 })
		stem := near[leaf][at]
		left[stem]--
		code = append(code, stem)
	}
	return code
}

// edgesOf has the edges of the tree of a code. A node has an edge more than it stands in the code: from the code on, it is a leaf when it no longer stands there.
func edgesOf(code []int) [][2]int {
	left := slices.Repeat([]int{1}, len(code)+2)
	for _, v := range code {
		left[v]++
	}
	var edges [][2]int
	for _, stem := range code {
		leaf := slices.Index(left, 1)
		left[leaf] = 0
		left[stem]--
		edges = append(edges, [2]int{leaf, stem})
	}
	first := slices.Index(left, 1)
	left[first] = 0
	return append(edges, [2]int{first, slices.Index(left, 1)})
}

// leastText is the least one of a tree's texts from all its nodes on.
func leastText(near [][]int) string {
	var text func(v, from int) string
	text = func(v, from int) string {
		var hang []string
		for _, u := range near[v] {
			if u != from {
				hang = append(hang, text(u, v))
			}
		}
		slices.Sort(hang)
		return "(" + strings.Join(hang, "") + ")"
	}
	least := text(0, -1)
	for v := 1; v < len(near); v++ {
		least = min(least, text(v, -1))
	}
	return least
}
