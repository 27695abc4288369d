package flow

import "arbor/api"

// cutTree hangs all nodes of a graph that has some at node 0, and then parts each one, in their order, from the node that it hangs at, by a cut. Those behind it that hang at the same node, and are on its side of the cut, hang at it from then on. Those ahead of it stay where they are: the tree need only tell how much goes, not what a cut looks like.
func cutTree(g api.Graph, weights []int) (up, cut []int) {
	up, cut = make([]int, g.N), make([]int, g.N)
	up[0] = -1
	for v := 1; v < g.N; v++ {
		var far []int
		cut[v], far = pipesAlong(g, weights).fill(v, up[v])
		for u := v + 1; u < g.N; u++ {
			if up[u] == up[v] && far[u] != unreached {
				up[u] = v
			}
		}
	}
	return up, cut
}
