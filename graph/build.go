package graph

import "arbor/api"

// build makes the graph of n nodes whose edges near tells of; it asks with the lesser node first, rising, so that what comes out is in form.
func build(n int, near func(u, v int) bool) (api.Graph, api.Fault) {
	if n > api.MaxNodes {
		return api.Graph{}, api.Fault{Code: api.ErrMany}
	}
	var edges [][2]int
	for u := range n {
		for v := u + 1; v < n; v++ {
			if !near(u, v) {
				continue
			}
			if len(edges) == api.MaxEdges {
				return api.Graph{}, api.Fault{Code: api.ErrMany}
			}
			edges = append(edges, [2]int{u, v})
		}
	}
	return api.Graph{N: n, Edges: edges}, api.Fault{}
}

// nearIn checks g, and answers a function that tells whether two nodes have an edge in g. The function keeps nothing of g's memory.
func nearIn(g api.Graph) (func(u, v int) bool, api.Fault) {
	if g.N < 0 || g.N > api.MaxNodes || len(g.Edges) > api.MaxEdges {
		return nil, api.Fault{Code: api.ErrMany}
	}
	edges := map[[2]int]struct{}{}
	near := func(u, v int) bool {
		_, ok := edges[lesserFirst(u, v)]
		return ok
	}
	for at, e := range g.Edges {
		u, v := e[0], e[1]
		switch {
		case !isNode(g.N, u) || !isNode(g.N, v):
			return nil, api.Fault{Code: api.ErrRange, At: at}
		case u == v:
			return nil, api.Fault{Code: api.ErrLoop, At: at}
		case near(u, v):
			return nil, api.Fault{Code: api.ErrTwice, At: at}
		}
		edges[lesserFirst(u, v)] = struct{}{}
	}
	return near, api.Fault{}
}

// nearInBoth is nearIn for two graphs: what is wrong with a is told ahead of what is wrong with b.
func nearInBoth(a, b api.Graph) (nearA, nearB func(u, v int) bool, f api.Fault) {
	nearA, f = nearIn(a)
	if f.Code != api.OK {
		return nil, nil, f
	}
	nearB, f = nearIn(b)
	if f.Code != api.OK {
		return nil, nil, f
	}
	return nearA, nearB, api.Fault{}
}

// checkNames tells the first name that is no node of n, or that stands ahead, too.
func checkNames(n int, nodes []int) api.Fault {
	seen := make([]bool, n)
	for at, v := range nodes {
		switch {
		case !isNode(n, v):
			return api.Fault{Code: api.ErrRange, At: at}
		case seen[v]:
			return api.Fault{Code: api.ErrTwice, At: at}
		}
		seen[v] = true
	}
	return api.Fault{}
}

func isNode(n, v int) bool { return 0 <= v && v < n }

// lesserFirst makes one key of an edge, whichever way round it was written.
func lesserFirst(u, v int) [2]int { return [2]int{min(u, v), max(u, v)} }

// meet tells whether two edges have a node together.
func meet(d, e [2]int) bool {
	return d[0] == e[0] || d[0] == e[1] || d[1] == e[0] || d[1] == e[1]
}
