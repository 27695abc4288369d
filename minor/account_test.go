package minor_test

import (
	"fmt"
	"slices"

	"arbor/api"
	"arbor/names"
)

// A second account of what the chapter says, as near to its words as may be, and no matter how slow.

// areSets: what point 1 says of the sets.
func areSets(g, h api.Graph, sets [][]int) bool {
	if len(sets) != h.N {
		return false
	}
	var all []int
	for _, set := range sets {
		if len(set) == 0 || !slices.IsSorted(set) || !hangTogether(g, set) {
			return false
		}
		all = append(all, set...)
	}
	slices.Sort(all)
	if len(slices.Compact(slices.Clone(all))) != len(all) || len(all) > 0 && (all[0] < 0 || all[len(all)-1] >= g.N) {
		return false
	}
	return !slices.ContainsFunc(h.Edges, func(e [2]int) bool { return !anyEdge(g, sets[e[0]], sets[e[1]]) })
}

// anyEdge: does some edge of g go from the one set to the other one?
func anyEdge(g api.Graph, a, b []int) bool {
	return slices.ContainsFunc(g.Edges, func(e [2]int) bool {
		return slices.Contains(a, e[0]) && slices.Contains(b, e[1]) || slices.Contains(a, e[1]) && slices.Contains(b, e[0])
	})
}

// hangTogether: do the nodes hang together by g's edges between them? A node that has an edge with one of those that were reached is reached, too.
func hangTogether(g api.Graph, nodes []int) bool {
	reached := nodes[:1:1]
	for i := 0; i < len(reached); i++ {
		for _, v := range nodes {
			if has(g, reached[i], v) && !slices.Contains(reached, v) {
				reached = append(reached, v)
			}
		}
	}
	return len(reached) == len(nodes)
}

// isMinor puts each node of g into one of the sets or into none, in all ways.
func isMinor(g, h api.Graph) bool {
	sets := make([][]int, h.N)
	var from func(v int) bool
	from = func(v int) bool {
		if v == g.N {
			return areSets(g, h, sets)
		}
		for i := range sets {
			sets[i] = append(sets[i], v)
			if from(v + 1) {
				return true
			}
			sets[i] = sets[i][:len(sets[i])-1]
		}
		return from(v + 1)
	}
	return from(0)
}

// isWithin: what point 2 says of a list.
func isWithin(g, h api.Graph, to []int) bool {
	if len(to) != h.N {
		return false
	}
	for i, v := range to {
		if v < 0 || v >= g.N || slices.Contains(to[:i], v) {
			return false
		}
	}
	return !slices.ContainsFunc(h.Edges, func(e [2]int) bool { return !has(g, to[e[0]], to[e[1]]) })
}

// leastWithin goes through all lists of so many different nodes, in their order, to the first one that will do.
func leastWithin(g, h api.Graph) ([]int, bool) {
	var to []int
	var from func() bool
	from = func() bool {
		if len(to) == h.N {
			return isWithin(g, h, to)
		}
		for v := range g.N {
			if slices.Contains(to, v) {
				continue
			}
			to = append(to, v)
			if from() {
				return true
			}
			to = to[:len(to)-1]
		}
		return false
	}
	ok := from()
	return to, ok
}

// withoutNode is g without a node, and without its edges.
func withoutNode(g api.Graph, gone int) api.Graph {
	out := api.Graph{N: g.N - 1}
	for _, e := range g.Edges {
		if e[0] == gone || e[1] == gone {
			continue
		}
		for i := range e {
			if e[i] > gone {
				e[i]--
			}
		}
		out.Edges = append(out.Edges, e)
	}
	return out
}

// contracted is g with the two nodes of an edge made one.
func contracted(g api.Graph, at int) api.Graph {
	stays, goes := g.Edges[at][0], g.Edges[at][1]
	out := api.Graph{N: g.N}
	for _, e := range g.Edges {
		for i := range e {
			if e[i] == goes {
				e[i] = stays
			}
		}
		if e[0] != e[1] && !has(out, e[0], e[1]) {
			out.Edges = append(out.Edges, e)
		}
	}
	return withoutNode(out, goes)
}

// kinds has one of all graphs that differ in their numbers alone, those with fewer nodes, then those with fewer edges first; of each kind it tells which ones are its minors.
type kinds struct {
	graphs []api.Graph
	number map[string]int
	minors [][]bool
}

func nameOf(g api.Graph) string {
	canon, _, _ := names.Canon(g)
	return fmt.Sprint(canon)
}

// kindsUpTo has all kinds of graphs of up to so many nodes. What comes of a graph by taking away an edge or a node, or by making the two nodes of an edge one, and all minors of that, are its minors; beside itself there is no other.
func kindsUpTo(most int) kinds {
	k := kinds{number: map[string]int{}}
	for n := range most + 1 {
		k.add(of(n))
		for at := len(k.graphs) - 1; at < len(k.graphs); at++ {
			for _, e := range full(n).Edges {
				if !has(k.graphs[at], e[0], e[1]) {
					k.add(with(k.graphs[at], e[0], e[1]))
				}
			}
		}
	}
	for at, g := range k.graphs {
		minors := make([]bool, len(k.graphs))
		minors[at] = true
		for _, less := range lesser(g) {
			for i, is := range k.minors[k.number[nameOf(less)]] {
				minors[i] = minors[i] || is
			}
		}
		k.minors = append(k.minors, minors)
	}
	return k
}

func (k *kinds) add(g api.Graph) {
	name := nameOf(g)
	if _, ok := k.number[name]; !ok {
		k.number[name] = len(k.graphs)
		k.graphs = append(k.graphs, g)
	}
}

// lesser has what comes of g by one step.
func lesser(g api.Graph) []api.Graph {
	var out []api.Graph
	for at := range g.Edges {
		out = append(out, withoutAt(g, at), contracted(g, at))
	}
	for v := range g.N {
		out = append(out, withoutNode(g, v))
	}
	return out
}

// place tells of each node of a graph with which least one it was made one, or -1, if it is gone.
type place [10]int8

// sixes has all graphs of six nodes that come of g by making the two nodes of an edge one, and by taking away nodes. What has six nodes or fewer and is a minor of g, which has six at least, is a minor of one of these.
func sixes(g api.Graph) []api.Graph {
	var start place
	for v := range start {
		start[v] = int8(v)
	}
	seen := map[place]int{start: g.N}
	found := map[string]api.Graph{}
	for todo := []place{start}; len(todo) > 0; {
		p := todo[len(todo)-1]
		todo = todo[:len(todo)-1]
		if seen[p] == 6 {
			six := p.graph(g)
			found[nameOf(six)] = six
			continue
		}
		for _, next := range p.onward(g) {
			if _, ok := seen[next]; !ok {
				seen[next] = seen[p] - 1
				todo = append(todo, next)
			}
		}
	}
	var out []api.Graph
	for _, six := range found {
		out = append(out, six)
	}
	return out
}

// onward has the places of one node less.
func (p place) onward(g api.Graph) []place {
	var out []place
	for v := range g.N {
		if int(p[v]) == v {
			out = append(out, p.moved(int8(v), -1))
		}
	}
	for _, e := range g.Edges {
		if a, b := p[e[0]], p[e[1]]; a != b && a >= 0 && b >= 0 {
			out = append(out, p.moved(max(a, b), min(a, b)))
		}
	}
	return out
}

func (p place) moved(from, to int8) place {
	for v := range p {
		if p[v] == from {
			p[v] = to
		}
	}
	return p
}

// graph answers the graph of the nodes that are left.
func (p place) graph(g api.Graph) api.Graph {
	var left []int
	for v := range g.N {
		if int(p[v]) == v {
			left = append(left, v)
		}
	}
	out := api.Graph{N: len(left)}
	for _, e := range g.Edges {
		u, v := slices.Index(left, int(p[e[0]])), slices.Index(left, int(p[e[1]]))
		if u >= 0 && v >= 0 && u != v && !has(out, u, v) {
			out.Edges = append(out.Edges, [2]int{u, v})
		}
	}
	return out
}

// faultOf goes through what chapter 1 says of Check, of g and then of h, and then what this chapter says.
func faultOf(g, h api.Graph) api.Fault {
	for _, x := range []api.Graph{g, h} {
		if f := faultOfOne(x); f != (api.Fault{}) {
			return f
		}
	}
	if g.N > 10 || h.N > 6 {
		return fault(api.ErrMany, 0)
	}
	return api.Fault{}
}

func faultOfOne(g api.Graph) api.Fault {
	if g.N < 0 || g.N > api.MaxNodes || len(g.Edges) > api.MaxEdges {
		return fault(api.ErrMany, 0)
	}
	for at, e := range g.Edges {
		switch {
		case min(e[0], e[1]) < 0 || max(e[0], e[1]) >= g.N:
			return fault(api.ErrRange, at)
		case e[0] == e[1]:
			return fault(api.ErrLoop, at)
		case slices.Contains(g.Edges[:at], e) || slices.Contains(g.Edges[:at], [2]int{e[1], e[0]}):
			return fault(api.ErrTwice, at)
		}
	}
	return api.Fault{}
}
