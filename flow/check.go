package flow

import (
	"arbor/api"
	"arbor/graph"
)

func isNode(n, v int) bool { return 0 <= v && v < n }

func isValue(x int) bool { return 0 <= x && x <= api.MaxValue }

// checkEnds tells what is wrong with the two of n nodes between which something is to go.
func checkEnds(n, s, t int) api.Fault {
	switch {
	case !isNode(n, s):
		return api.Fault{Code: api.ErrRange}
	case !isNode(n, t):
		return api.Fault{Code: api.ErrRange, At: 1}
	case s == t:
		return api.Fault{Code: api.ErrTwice, At: 1}
	}
	return api.Fault{}
}

// openForm answers g in form; a fault of g comes first, then that of the two nodes.
func openForm(g api.Graph, s, t int) (api.Graph, api.Fault) {
	form, f := graph.Form(g)
	if f.Code != api.OK {
		return api.Graph{}, f
	}
	if f := checkEnds(form.N, s, t); f.Code != api.OK {
		return api.Graph{}, f
	}
	return form, api.Fault{}
}

func checkWeights(g api.Graph, weights []int) api.Fault {
	if len(weights) != len(g.Edges) {
		return api.Fault{Code: api.ErrSize}
	}
	for at, weight := range weights {
		if !isValue(weight) {
			return api.Fault{Code: api.ErrRange, At: at}
		}
	}
	return api.Fault{}
}
