package trees_test

import (
	"fmt"
	"slices"
	"testing"

	"arbor/api"
	"arbor/trees"
)

func fault(code, at int) api.Fault { return api.Fault{Code: code, At: at} }

// of makes a graph of n nodes and the edges l[0]-l[1], l[2]-l[3], ..
func of(n int, l ...int) api.Graph {
	g := api.Graph{N: n}
	for i := 0; i+1 < len(l); i += 2 {
		g.Edges = append(g.Edges, [2]int{l[i], l[i+1]})
	}
	return g
}

// some has n nodes and the first m pairs of them, in form.
func some(n, m int) api.Graph {
	g := api.Graph{N: n}
	for u := range n {
		for v := u + 1; v < n && len(g.Edges) < m; v++ {
			g.Edges = append(g.Edges, [2]int{u, v})
		}
	}
	return g
}

func full(n int) api.Graph { return some(n, n*(n-1)/2) }

// path goes through all nodes, in their order.
func path(n int) api.Graph {
	g := api.Graph{N: n}
	for v := 1; v < n; v++ {
		g.Edges = append(g.Edges, [2]int{v - 1, v})
	}
	return g
}

func ring(n int) api.Graph { return with(path(n), n-1, 0) }

func star(n int) api.Graph { return some(n, n-1) }

// with is g with the edges l[0]-l[1], l[2]-l[3], .. behind its own.
func with(g api.Graph, l ...int) api.Graph {
	return api.Graph{N: g.N, Edges: slices.Concat(g.Edges, of(g.N, l...).Edges)}
}

// twoSides has an edge from each of a nodes to each of b others.
func twoSides(a, b int) api.Graph {
	g := api.Graph{N: a + b}
	for u := range a {
		for v := range b {
			g.Edges = append(g.Edges, [2]int{u, a + v})
		}
	}
	return g
}

func grid(rows, columns int) api.Graph {
	g := api.Graph{N: rows * columns}
	for v := range g.N {
		if v%columns < columns-1 {
			g.Edges = append(g.Edges, [2]int{v, v + 1})
		}
		if v+columns < g.N {
			g.Edges = append(g.Edges, [2]int{v, v + columns})
		}
	}
	return g
}

func petersen() api.Graph {
	g := api.Graph{N: 10}
	for i := range 5 {
		g.Edges = append(g.Edges, [2]int{i, (i + 1) % 5}, [2]int{i, i + 5}, [2]int{5 + i, 5 + (i+2)%5})
	}
	return g
}

// beside has the nodes of a, behind them those of b.
func beside(a, b api.Graph) api.Graph {
	g := api.Graph{N: a.N + b.N, Edges: slices.Clone(a.Edges)}
	for _, e := range b.Edges {
		g.Edges = append(g.Edges, [2]int{e[0] + a.N, e[1] + a.N})
	}
	return g
}

// turned has node v of g as node (v*step+2) % N, so that numbers say nothing of places; step and N have no divisor together.
func turned(g api.Graph, step int) api.Graph {
	h := api.Graph{N: g.N}
	for _, e := range g.Edges {
		h.Edges = append(h.Edges, [2]int{(e[0]*step + 2) % g.N, (e[1]*step + 2) % g.N})
	}
	return h
}

// scrambled has the edges of g from the last to the first, every other one the other way round.
func scrambled(g api.Graph) api.Graph {
	h := api.Graph{N: g.N}
	for i := len(g.Edges) - 1; i >= 0; i-- {
		e := g.Edges[i]
		if i%2 == 0 {
			e[0], e[1] = e[1], e[0]
		}
		h.Edges = append(h.Edges, e)
	}
	return h
}

// small has all graphs of at most most nodes, in form.
func small(most int) []api.Graph {
	var out []api.Graph
	for n := range most + 1 {
		all := full(n).Edges
		for set := range 1 << len(all) {
			g := api.Graph{N: n}
			for i, e := range all {
				if set>>i&1 == 1 {
					g.Edges = append(g.Edges, e)
				}
			}
			out = append(out, g)
		}
	}
	return out
}

// mixed has n nodes and those of tries pairs of them that a graph may have; no pair is chosen by hand, and they are the same ones each time.
func mixed(n, tries, seed int) api.Graph {
	x := uint64(seed)*2654435761 + 12345
	draw := func() int {
		x = x*6364136223846793005 + 1442695040888963407
		return int(x>>33) % n
	}
	g := api.Graph{N: n}
	for range tries {
		u, v := draw(), draw()
		if u != v && !has(g, u, v) && len(g.Edges) < api.MaxEdges {
			g.Edges = append(g.Edges, [2]int{u, v})
		}
	}
	return g
}

// medium has graphs of some nodes, from hardly any edges to most of them.
func medium() []api.Graph {
	out := []api.Graph{petersen(), grid(3, 4), scrambled(grid(4, 3)), turned(grid(2, 7), 3), twoSides(3, 5), full(12)}
	for seed := range 300 {
		out = append(out, mixed(6+seed%9, 3+seed%31, seed))
	}
	return out
}

// great has graphs at the limits, or near them.
func great() []api.Graph {
	out := []api.Graph{
		of(api.MaxNodes), path(api.MaxNodes), ring(api.MaxNodes), star(api.MaxNodes), full(45),
		some(api.MaxNodes, api.MaxEdges), ring(api.MaxNodes - 1), twoSides(25, 40), grid(10, 10), turned(grid(10, 10), 37),
		turned(path(api.MaxNodes), 37), turned(ring(api.MaxNodes), 37), turned(star(api.MaxNodes), 37),
		beside(ring(51), path(49)), beside(full(40), beside(ring(30), star(30))),
		turned(beside(full(40), beside(ring(31), star(28))), 7),
	}
	for seed := range 15 {
		out = append(out, mixed(api.MaxNodes, 20+seed*20, seed))
	}
	return append(out, mixed(api.MaxNodes, 1300, 99))
}

// has looks an edge up by going through the list.
func has(g api.Graph, u, v int) bool {
	return slices.Contains(g.Edges, [2]int{u, v}) || slices.Contains(g.Edges, [2]int{v, u})
}

// same holds what is told of two answers against each other; lists without elements are the same, nil or empty.
func same(t *testing.T, what string, got, want any, f api.Fault) {
	t.Helper()
	if fmt.Sprint(got) != fmt.Sprint(want) || f != (api.Fault{}) {
		t.Errorf("%s: %v %v, want %v", what, got, f, want)
	}
}

// wantFault: a fault, and beside it nothing.
func wantFault(t *testing.T, what string, got answer, f, want api.Fault) {
	t.Helper()
	if f != want || len(got.edges)+len(got.code)+len(got.text) != 0 || got.number != 0 {
		t.Errorf("%s: %v %v, want nothing and %v", what, got, f, want)
	}
}

// answer is what any of the calls answers beside a fault.
type answer struct {
	edges  [][2]int
	code   []int
	text   string
	number int
}

// call is a call that is asked of a graph, and of weights as far as it takes them.
type call struct {
	name string
	ask  func(g api.Graph, weights []int) (answer, api.Fault)
}

func calls() []call {
	return []call{
		{"Least", func(g api.Graph, weights []int) (answer, api.Fault) {
			edges, total, f := trees.Least(g, weights)
			return answer{edges: edges, number: total}, f
		}},
		{"Count", func(g api.Graph, _ []int) (answer, api.Fault) {
			text, f := trees.Count(g)
			return answer{text: text}, f
		}},
		{"Code", func(g api.Graph, _ []int) (answer, api.Fault) {
			code, f := trees.Code(g)
			return answer{code: code}, f
		}},
		{"Tree", func(_ api.Graph, code []int) (answer, api.Fault) {
			g, f := trees.Tree(code)
			return answer{edges: g.Edges, number: g.N}, f
		}},
		{"Canon", func(g api.Graph, _ []int) (answer, api.Fault) {
			text, f := trees.Canon(g)
			return answer{text: text}, f
		}},
	}
}

// ofGraphs are the calls that are asked of a graph: all but Tree.
func ofGraphs() []call {
	return slices.DeleteFunc(calls(), func(c call) bool { return c.name == "Tree" })
}
