package logic

import (
	"slices"

	"arbor/api"
)

// world is a graph of which formulas are asked: so many nodes, and of each one a set of those near it.
type world struct {
	nodes int
	near  []int
}

// A set of nodes is a number that has a bit for each of its nodes.
func isIn(v, nodes int) bool { return nodes>>v&1 == 1 }

func newWorld(g api.Graph) world {
	w := world{g.N, make([]int, g.N)}
	for _, e := range g.Edges {
		w.near[e[0]] |= 1 << e[1]
		w.near[e[1]] |= 1 << e[0]
	}
	return w
}

// ways answers all ways in which the free names can be nodes so that f holds. The last name comes first in the scope, so that the places of the table are in the order of lists.
func (w world) ways(f api.Formula, free []string) [][]int {
	var scope []name
	for i := len(free) - 1; i >= 0; i-- {
		scope = append(scope, nameOf(free[i]))
	}
	t := w.holds(f, scope)
	var out [][]int
	for place := range t.size {
		if t.has(place) {
			out = append(out, w.wayAt(place, len(free)))
		}
	}
	return out
}

// wayAt answers the nodes that so many names are at a place of a table of nodes alone.
func (w world) wayAt(place, names int) []int {
	way := make([]int, names)
	for i := names - 1; i >= 0; i-- {
		way[i] = place % w.nodes
		place /= w.nodes
	}
	return way
}

// size answers in how many ways the names of a scope can be nodes and sets.
func (w world) size(scope []name) int {
	size := 1
	for _, n := range scope {
		size *= n.choices(w.nodes)
	}
	return size
}

// holds answers, for each way in which the names of the scope can be nodes and sets, whether f holds. Of two names that are the same the one behind is meant.
func (w world) holds(f api.Formula, scope []name) table {
	switch f.Kind {
	case api.FTrue:
		return allOf(w.size(scope))
	case api.FNear:
		return w.said(f, scope, func(u, v int) bool { return isIn(v, w.near[u]) })
	case api.FSame:
		return w.said(f, scope, func(u, v int) bool { return u == v })
	case api.FIn:
		return w.said(f, scope, isIn)
	case api.FNot:
		return w.holds(f.Kids[0], scope).not()
	case api.FAnd:
		return w.both(f, scope, and)
	case api.FOr:
		return w.both(f, scope, or)
	case api.FThen:
		return w.both(f, scope, then)
	case api.FAll:
		return w.bound(f, scope, allOf, and)
	case api.FSome:
		return w.bound(f, scope, noneOf, or)
	}
	return noneOf(w.size(scope))
}

// said goes through all that the two names of f can be, and repeats what is said of them for all that the other names can be.
func (w world) said(f api.Formula, scope []name, says func(a, b int) bool) table {
	a, b := last(scope, f.A), last(scope, f.B)
	values := make([]int, len(scope))
	var of func(names int) table
	of = func(names int) table {
		if names == 0 {
			return oneOf(says(values[a], values[b]))
		}
		at := names - 1
		many := scope[at].choices(w.nodes)
		if at != a && at != b {
			return of(at).times(many)
		}
		out := roomFor(w.size(scope[:names]))
		for v := range many {
			values[at] = v
			out.add(of(at))
		}
		return out
	}
	return of(len(scope))
}

// last answers where a name stands last in a scope.
func last(scope []name, text string) int {
	at := len(scope) - 1
	for scope[at] != nameOf(text) {
		at--
	}
	return at
}

// both asks the two Kids of f. The one of more parts is asked first: while it is, no table of the other one is kept, so that of a long row of parts within parts there are few at a time.
func (w world) both(f api.Formula, scope []name, join func(a, b uint64) uint64) table {
	first, second := 0, 1
	if count(f.Kids[first]) < count(f.Kids[second]) {
		first, second = second, first
	}
	var tables [2]table
	tables[first] = w.holds(f.Kids[first], scope)
	tables[second] = w.holds(f.Kids[second], scope)
	return tables[0].with(tables[1], join)
}

// count answers how many parts a formula has.
func count(f api.Formula) int {
	parts := 1
	for _, kid := range f.Kids {
		parts += count(kid)
	}
	return parts
}

// bound asks what f says of all that its name can be, and joins that, from what holds if there is nothing for it to be.
func (w world) bound(f api.Formula, scope []name, start func(size int) table, join func(a, b uint64) uint64) table {
	n := nameOf(f.A)
	kid := w.holds(f.Kids[0], append(slices.Clone(scope), n))
	return start(w.size(scope)).withPieces(kid, n.choices(w.nodes), join)
}
