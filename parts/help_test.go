package parts_test

import (
	"fmt"
	"slices"
	"testing"

	"arbor/api"
	"arbor/parts"
)

func fault(code, at int) api.Fault { return api.Fault{Code: code, At: at} }

// pairs are l[0], l[1], then l[2], l[3], ..
func pairs(l ...int) [][2]int {
	var out [][2]int
	for i := 0; i+1 < len(l); i += 2 {
		out = append(out, [2]int{l[i], l[i+1]})
	}
	return out
}

func of(n int, l ...int) api.Graph { return api.Graph{N: n, Edges: pairs(l...)} }

// some has n nodes and the first m pairs of them, in form.
func some(n, m int) api.Graph {
	g := api.Graph{N: n}
	for u := range n {
		for v := u + 1; v < n && len(g.Edges) < m; v++ {
			g.Edges = append(g.Edges, [2]int{u, v})
		}
	}
	return g
}

func full(n int) api.Graph { return some(n, n*(n-1)/2) }

// path goes through all nodes, in their order.
func path(n int) api.Graph {
	g := api.Graph{N: n}
	for v := 1; v < n; v++ {
		g.Edges = append(g.Edges, [2]int{v - 1, v})
	}
	return g
}

// ring is in form.
func ring(n int) api.Graph {
	g := path(n)
	g.Edges = slices.Insert(g.Edges, 1, [2]int{0, n - 1})
	return g
}

func star(n int) api.Graph { return some(n, n-1) }

// beside has the nodes of a, behind them those of b.
func beside(a, b api.Graph) api.Graph {
	g := api.Graph{N: a.N + b.N, Edges: slices.Clone(a.Edges)}
	for _, e := range b.Edges {
		g.Edges = append(g.Edges, [2]int{e[0] + a.N, e[1] + a.N})
	}
	return g
}

// turned has node v of g as node (v*step+2) % N, so that first nodes are no first ones any longer; step and N have no divisor together.
func turned(g api.Graph, step int) api.Graph {
	h := api.Graph{N: g.N}
	for _, e := range g.Edges {
		h.Edges = append(h.Edges, [2]int{(e[0]*step + 2) % g.N, (e[1]*step + 2) % g.N})
	}
	return h
}

// scrambled has the edges of g from the last to the first, every other one the other way round.
func scrambled(g api.Graph) api.Graph {
	h := api.Graph{N: g.N}
	for i := len(g.Edges) - 1; i >= 0; i-- {
		e := g.Edges[i]
		if i%2 == 0 {
			e[0], e[1] = e[1], e[0]
		}
		h.Edges = append(h.Edges, e)
	}
	return h
}

// inForm sorts, by itself, so that it shares nothing with the program.
func inForm(edges [][2]int) [][2]int {
	var out [][2]int
	for _, e := range edges {
		out = append(out, [2]int{min(e[0], e[1]), max(e[0], e[1])})
	}
	slices.SortFunc(out, func(d, e [2]int) int { return slices.Compare(d[:], e[:]) })
	return out
}

// small has all graphs of n nodes, in form.
func small(n int) []api.Graph {
	var out []api.Graph
	all := full(n).Edges
	for set := range 1 << len(all) {
		g := api.Graph{N: n}
		for i, e := range all {
			if set>>i&1 == 1 {
				g.Edges = append(g.Edges, e)
			}
		}
		out = append(out, g)
	}
	return out
}

// mixed has count pairs of numbers below n, none of them chosen by hand; the same ones each time.
func mixed(n, count, seed int) [][2]int {
	x := uint64(seed)*2654435761 + 12345
	draw := func() int {
		x = x*6364136223846793005 + 1442695040888963407
		return int(x>>33) % n
	}
	var out [][2]int
	for range count {
		out = append(out, [2]int{draw(), draw()})
	}
	return out
}

// sifted has those of the pairs that a graph may have.
func sifted(n int, all [][2]int) api.Graph {
	g := api.Graph{N: n}
	for _, e := range all {
		if e[0] != e[1] && !has(g, e[0], e[1]) && len(g.Edges) < api.MaxEdges {
			g.Edges = append(g.Edges, e)
		}
	}
	return g
}

// medium has graphs of some nodes, from hardly any edges to most of them.
func medium() []api.Graph {
	var out []api.Graph
	for seed := range 300 {
		n := 6 + seed%9
		out = append(out, sifted(n, mixed(n, 3+seed%31, seed)))
	}
	return out
}

// great has graphs at the limits, or near them.
func great() []api.Graph {
	out := []api.Graph{
		of(api.MaxNodes), path(api.MaxNodes), ring(api.MaxNodes), star(api.MaxNodes), full(45),
		some(api.MaxNodes, api.MaxEdges), ring(api.MaxNodes - 1),
		turned(path(api.MaxNodes), 37), turned(ring(api.MaxNodes), 37), turned(star(api.MaxNodes), 37),
		beside(ring(51), path(49)), beside(full(40), beside(ring(30), star(30))),
		turned(beside(full(40), beside(ring(31), star(28))), 7),
	}
	for seed := range 25 {
		out = append(out, sifted(api.MaxNodes, mixed(api.MaxNodes, 20+seed*12, seed)))
	}
	return append(out, sifted(api.MaxNodes, mixed(api.MaxNodes, 1300, 99)))
}

// has looks an edge up by going through the list.
func has(g api.Graph, u, v int) bool {
	return slices.Contains(g.Edges, [2]int{u, v}) || slices.Contains(g.Edges, [2]int{v, u})
}

// same holds what is told of two answers against each other; lists without elements are the same, nil or empty.
func same(t *testing.T, what string, got, want any, f api.Fault) {
	t.Helper()
	if fmt.Sprint(got) != fmt.Sprint(want) || f != (api.Fault{}) {
		t.Errorf("%s: %v %v, want %v", what, got, f, want)
	}
}

// call is a call that is asked of a graph, with all that it answers beside the fault.
type call struct {
	name string
	ask  func(g api.Graph) ([]any, api.Fault)
}

func calls() []call {
	return []call{
		{"Components", func(g api.Graph) ([]any, api.Fault) { a, f := parts.Components(g); return []any{a}, f }},
		{"Blocks", func(g api.Graph) ([]any, api.Fault) { a, f := parts.Blocks(g); return []any{a}, f }},
		{"Bridges", func(g api.Graph) ([]any, api.Fault) { a, f := parts.Bridges(g); return []any{a}, f }},
		{"Cuts", func(g api.Graph) ([]any, api.Fault) { a, f := parts.Cuts(g); return []any{a}, f }},
		{"Sides", func(g api.Graph) ([]any, api.Fault) { a, b, f := parts.Sides(g); return []any{a, b}, f }},
	}
}
