package width

import (
	"arbor/api"
	"arbor/graph"
)

// open answers the bags as sets, or the first thing that is wrong with the graph, the lists, or what is in a bag.
func open(g api.Graph, bags [][]int, up []int) ([]set, api.Fault) {
	if f := graph.Check(g); f.Code != api.OK {
		return nil, f
	}
	if len(bags) > api.MaxNodes {
		return nil, api.Fault{Code: api.ErrMany}
	}
	if len(up) != len(bags) {
		return nil, api.Fault{Code: api.ErrSize}
	}
	sets := make([]set, len(bags))
	for at, bag := range bags {
		s, code := setOf(g.N, bag)
		if code != api.OK {
			return nil, api.Fault{Code: code, At: at}
		}
		sets[at] = s
	}
	return sets, api.Fault{}
}

// setOf answers the nodes of a bag as a set, or the code of the first thing that is wrong with one of them.
func setOf(n int, bag []int) (set, int) {
	var s set
	for _, v := range bag {
		switch {
		case v < 0 || v >= n:
			return set{}, api.ErrRange
		case s.has(v):
			return set{}, api.ErrTwice
		}
		s.add(v)
	}
	return s, api.OK
}

// checkWeights tells that there is not a weight for each of n nodes, or else the first one that may not stand there.
func checkWeights(n int, weights []int) api.Fault {
	if len(weights) != n {
		return api.Fault{Code: api.ErrSize, At: 1}
	}
	for v, weight := range weights {
		if weight < -api.MaxValue || weight > api.MaxValue {
			return api.Fault{Code: api.ErrRange, At: v}
		}
	}
	return api.Fault{}
}

// checkSmall tells the first bag that has too many nodes for all choices of them to be tried.
func checkSmall(bags []set) api.Fault {
	for at, bag := range bags {
		if bag.size() > api.MaxSmall {
			return api.Fault{Code: api.ErrMany, At: at}
		}
	}
	return api.Fault{}
}
