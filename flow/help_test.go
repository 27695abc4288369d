package flow_test

import (
	"fmt"
	"slices"
	"testing"

	"arbor/api"
	"arbor/flow"
)

func fault(code, at int) api.Fault { return api.Fault{Code: code, At: at} }

// of makes a graph of n nodes and the edges l[0]-l[1], l[2]-l[3], ..
func of(n int, l ...int) api.Graph {
	g := api.Graph{N: n}
	for i := 0; i+1 < len(l); i += 2 {
		g.Edges = append(g.Edges, [2]int{l[i], l[i+1]})
	}
	return g
}

// netOf makes a net of n nodes and the arcs from l[0] to l[1] with l[2], from l[3] to l[4] with l[5], ..
func netOf(n int, l ...int) api.Net {
	net := api.Net{N: n}
	for i := 0; i+2 < len(l); i += 3 {
		net.Arcs = append(net.Arcs, api.Arc{From: l[i], To: l[i+1], Cap: l[i+2]})
	}
	return net
}

// some has n nodes and the first m pairs of them, in form.
func some(n, m int) api.Graph {
	g := api.Graph{N: n}
	for u := range n {
		for v := u + 1; v < n && len(g.Edges) < m; v++ {
			g.Edges = append(g.Edges, [2]int{u, v})
		}
	}
	return g
}

func full(n int) api.Graph { return some(n, n*(n-1)/2) }

// path goes through all nodes, in their order.
func path(n int) api.Graph {
	g := api.Graph{N: n}
	for v := 1; v < n; v++ {
		g.Edges = append(g.Edges, [2]int{v - 1, v})
	}
	return g
}

func ring(n int) api.Graph { return with(path(n), n-1, 0) }

func star(n int) api.Graph { return some(n, n-1) }

// with is g with the edges l[0]-l[1], l[2]-l[3], .. behind its own.
func with(g api.Graph, l ...int) api.Graph {
	return api.Graph{N: g.N, Edges: slices.Concat(g.Edges, of(g.N, l...).Edges)}
}

// twoSides has an edge from each of a nodes to each of b others.
func twoSides(a, b int) api.Graph {
	g := api.Graph{N: a + b}
	for u := range a {
		for v := range b {
			g.Edges = append(g.Edges, [2]int{u, a + v})
		}
	}
	return g
}

func grid(rows, columns int) api.Graph {
	g := api.Graph{N: rows * columns}
	for v := range g.N {
		if v%columns < columns-1 {
			g.Edges = append(g.Edges, [2]int{v, v + 1})
		}
		if v+columns < g.N {
			g.Edges = append(g.Edges, [2]int{v, v + columns})
		}
	}
	return g
}

func petersen() api.Graph {
	g := api.Graph{N: 10}
	for i := range 5 {
		g.Edges = append(g.Edges, [2]int{i, (i + 1) % 5}, [2]int{i, i + 5}, [2]int{5 + i, 5 + (i+2)%5})
	}
	return g
}

// nextTo has the nodes of a, behind them those of b.
func nextTo(a, b api.Graph) api.Graph {
	g := api.Graph{N: a.N + b.N, Edges: slices.Clone(a.Edges)}
	for _, e := range b.Edges {
		g.Edges = append(g.Edges, [2]int{e[0] + a.N, e[1] + a.N})
	}
	return g
}

// layers has so many layers of so many nodes, with all edges from each layer to the next.
func layers(many, size int) api.Graph {
	g := api.Graph{N: many * size}
	for u := range g.N {
		for v := u/size*size + size; v < min(g.N, u/size*size+2*size); v++ {
			g.Edges = append(g.Edges, [2]int{u, v})
		}
	}
	return g
}

// turned has node v of g as node (v*step+2) % N, so that numbers say nothing of places; step and N have no divisor together.
func turned(g api.Graph, step int) api.Graph {
	h := api.Graph{N: g.N}
	for _, e := range g.Edges {
		h.Edges = append(h.Edges, [2]int{(e[0]*step + 2) % g.N, (e[1]*step + 2) % g.N})
	}
	return h
}

// scrambled has the edges of g from the last to the first, every other one the other way round.
func scrambled(g api.Graph) api.Graph {
	h := api.Graph{N: g.N}
	for i := len(g.Edges) - 1; i >= 0; i-- {
		e := g.Edges[i]
		if i%2 == 0 {
			e[0], e[1] = e[1], e[0]
		}
		h.Edges = append(h.Edges, e)
	}
	return h
}

// small has all graphs of n nodes, in form.
func small(n int) []api.Graph {
	var out []api.Graph
	all := full(n).Edges
	for set := range 1 << len(all) {
		g := api.Graph{N: n}
		for i, e := range all {
			if set>>i&1 == 1 {
				g.Edges = append(g.Edges, e)
			}
		}
		out = append(out, g)
	}
	return out
}

// drawFrom answers a function that draws numbers below some n, none of them chosen by hand; the same ones each time.
func drawFrom(seed int) func(n int) int {
	x := uint64(seed)*2654435761 + 12345
	return func(n int) int {
		x = x*6364136223846793005 + 1442695040888963407
		return int(x>>33) % n
	}
}

// mixed has n nodes and those of tries pairs of them that a graph may have.
func mixed(n, tries, seed int) api.Graph {
	draw := drawFrom(seed)
	g := api.Graph{N: n}
	for range tries {
		u, v := draw(n), draw(n)
		if u != v && !has(g, u, v) && len(g.Edges) < api.MaxEdges {
			g.Edges = append(g.Edges, [2]int{u, v})
		}
	}
	return g
}

// mixedNet has n nodes and so many arcs, also of a node to itself, also several from one node to another; none holds more than most.
func mixedNet(n, arcs, most, seed int) api.Net {
	draw := drawFrom(seed)
	net := api.Net{N: n}
	for range arcs {
		net.Arcs = append(net.Arcs, api.Arc{From: draw(n), To: draw(n), Cap: draw(most + 1)})
	}
	return net
}

// mixedWeights has a weight of at most most for each edge of g.
func mixedWeights(g api.Graph, most, seed int) []int {
	draw := drawFrom(seed + 77)
	var weights []int
	for range g.Edges {
		weights = append(weights, draw(most+1))
	}
	return weights
}

// medium has graphs of some nodes, from hardly any edges to most of them.
func medium() []api.Graph {
	out := []api.Graph{petersen(), grid(3, 4), scrambled(grid(4, 3)), turned(grid(2, 7), 3), twoSides(3, 5), full(12), layers(4, 3), turned(layers(3, 4), 5)}
	for seed := range 200 {
		out = append(out, mixed(6+seed%9, 3+seed%41, seed))
	}
	return out
}

// great has graphs at the limits, or near them.
func great() []api.Graph {
	out := []api.Graph{
		of(api.MaxNodes), path(api.MaxNodes), ring(api.MaxNodes), star(api.MaxNodes), full(45),
		some(api.MaxNodes, api.MaxEdges), twoSides(25, 40), twoSides(10, 90), grid(10, 10), turned(grid(10, 10), 37), grid(2, 50),
		layers(10, 10), turned(layers(10, 10), 37), layers(20, 5), layers(33, 3), turned(path(api.MaxNodes), 37), turned(ring(api.MaxNodes), 37),
		nextTo(ring(51), path(49)), nextTo(full(40), nextTo(ring(30), star(30))), turned(nextTo(full(40), nextTo(ring(31), star(28))), 7),
	}
	for seed := range 20 {
		out = append(out, mixed(api.MaxNodes-seed%3, 60+seed*40, seed))
	}
	return append(out, mixed(api.MaxNodes, 1300, 99))
}

// has looks an edge up by going through the list.
func has(g api.Graph, u, v int) bool {
	return slices.Contains(g.Edges, [2]int{u, v}) || slices.Contains(g.Edges, [2]int{v, u})
}

// wantFault: a fault, and beside it nothing.
func wantFault(t *testing.T, what string, got answer, f, want api.Fault) {
	t.Helper()
	if f != want || got.value != 0 || len(got.ways)+len(got.edges)+len(got.first)+len(got.second) != 0 {
		t.Errorf("%s: %v %v, want nothing and %v", what, got, f, want)
	}
}

// question is what any of the calls is asked; each takes of it what it needs.
type question struct {
	n       api.Net
	g       api.Graph
	s, t    int
	weights []int
}

// answer is what any of the calls answers beside a fault.
type answer struct {
	value         int
	ways          [][]int
	edges         [][2]int
	first, second []int
}

type call struct {
	name string
	ask  func(q question) (answer, api.Fault)
}

func askCheck() call {
	return call{"Check", func(q question) (answer, api.Fault) { return answer{}, flow.Check(q.n) }}
}

func askMost() call {
	return call{"Most", func(q question) (answer, api.Fault) {
		value, flows, side, f := flow.Most(q.n, q.s, q.t)
		return answer{value: value, first: flows, second: side}, f
	}}
}

func askApart() call {
	return call{"Apart", func(q question) (answer, api.Fault) {
		ways, cut, f := flow.Apart(q.g, q.s, q.t)
		return answer{ways: ways, edges: cut}, f
	}}
}

func askBeside() call {
	return call{"Beside", func(q question) (answer, api.Fault) {
		ways, cut, f := flow.Beside(q.g, q.s, q.t)
		return answer{ways: ways, first: cut}, f
	}}
}

func askTree() call {
	return call{"Tree", func(q question) (answer, api.Fault) {
		up, cut, f := flow.Tree(q.g, q.weights)
		return answer{first: up, second: cut}, f
	}}
}

func calls() []call { return []call{askCheck(), askMost(), askApart(), askBeside(), askTree()} }

// tellAll tells what all calls answer.
func tellAll(q question) string {
	out := ""
	for _, c := range calls() {
		out += fmt.Sprint(c.ask(q))
	}
	return out
}
