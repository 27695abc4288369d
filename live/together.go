package live

import "sync"

// together is what hangs together in a graph. It is found out when it is first asked; each change puts a new one, of which nothing is found out yet, in its place.
type together struct {
	once   sync.Once
	parts  int
	partOf []int // of each node, the least node of its component
}

// together answers what hangs together in the graph as it is now.
func (h *House) together() *together {
	h.hangs.once.Do(func() { h.hangs.find(len(h.names), h.edges) })
	return h.hangs
}

// find begins with each node alone, and joins what an edge goes between. The edges come in any order, so that a component is told by its least node, which hangs on none.
func (t *together) find(n int, edges map[[2]int]struct{}) {
	t.parts = n
	for v := range n {
		t.partOf = append(t.partOf, v)
	}
	for e := range edges {
		if t.partOf[e[0]] != t.partOf[e[1]] {
			t.join(t.partOf[e[0]], t.partOf[e[1]])
		}
	}
}

// join makes one of two components.
func (t *together) join(a, b int) {
	for v, part := range t.partOf {
		if part == max(a, b) {
			t.partOf[v] = min(a, b)
		}
	}
	t.parts--
}
