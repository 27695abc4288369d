// Package graph is layer 1: graphs as data, and graphs made of other graphs. See doc/01-graph.md.
package graph

import "arbor/api"

// Check tells the first thing that is wrong with g.
func Check(g api.Graph) api.Fault {
	_, f := nearIn(g)
	return f
}

// Form answers g in form.
func Form(g api.Graph) (api.Graph, api.Fault) {
	near, f := nearIn(g)
	if f.Code != api.OK {
		return api.Graph{}, f
	}
	return build(g.N, near)
}

// Near answers the nodes that have an edge with v, rising.
func Near(g api.Graph, v int) ([]int, api.Fault) {
	near, f := nearIn(g)
	if f.Code != api.OK {
		return nil, f
	}
	if !isNode(g.N, v) {
		return nil, api.Fault{Code: api.ErrRange}
	}
	var out []int
	for u := range g.N {
		if near(u, v) {
			out = append(out, u)
		}
	}
	return out, api.Fault{}
}

// Complement has the nodes of g, and an edge just where g has none.
func Complement(g api.Graph) (api.Graph, api.Fault) {
	near, f := nearIn(g)
	if f.Code != api.OK {
		return api.Graph{}, f
	}
	return build(g.N, func(u, v int) bool { return !near(u, v) })
}

// Line has the edges of g, in their order in form, as nodes; two are near if they have a node together.
func Line(g api.Graph) (api.Graph, api.Fault) {
	form, f := Form(g)
	if f.Code != api.OK {
		return api.Graph{}, f
	}
	return build(len(form.Edges), func(i, j int) bool {
		return meet(form.Edges[i], form.Edges[j])
	})
}

// Induced has the named nodes, in the order of the list, with the edges of g between them.
func Induced(g api.Graph, nodes []int) (api.Graph, api.Fault) {
	near, f := nearIn(g)
	if f.Code != api.OK {
		return api.Graph{}, f
	}
	if f := checkNames(g.N, nodes); f.Code != api.OK {
		return api.Graph{}, f
	}
	return build(len(nodes), func(i, j int) bool { return near(nodes[i], nodes[j]) })
}

// Join has the nodes and edges of a, behind them those of b, and all edges from a's nodes to b's.
func Join(a, b api.Graph) (api.Graph, api.Fault) {
	nearA, nearB, f := nearInBoth(a, b)
	if f.Code != api.OK {
		return api.Graph{}, f
	}
	return build(a.N+b.N, func(u, v int) bool {
		switch {
		case u < a.N && v < a.N:
			return nearA(u, v)
		case u >= a.N && v >= a.N:
			return nearB(u-a.N, v-a.N)
		}
		return true
	})
}

// Product has a node i*b.N + j for each node i of a and j of b; two are near if they are the same in one graph and near in the other.
func Product(a, b api.Graph) (api.Graph, api.Fault) {
	nearA, nearB, f := nearInBoth(a, b)
	if f.Code != api.OK {
		return api.Graph{}, f
	}
	return build(a.N*b.N, func(u, v int) bool {
		// build asks of nodes alone, so that b has one here, and b.N is not 0.
		i, j := u/b.N, u%b.N
		k, l := v/b.N, v%b.N
		return i == k && nearB(j, l) || j == l && nearA(i, k)
	})
}
