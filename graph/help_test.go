package graph_test

import (
	"slices"
	"testing"

	"arbor/api"
	"arbor/graph"
)

func fault(code, at int) api.Fault { return api.Fault{Code: code, At: at} }

// of makes a graph of n nodes and the edges l[0]-l[1], l[2]-l[3], ..
func of(n int, l ...int) api.Graph {
	g := api.Graph{N: n}
	for i := 0; i+1 < len(l); i += 2 {
		g.Edges = append(g.Edges, [2]int{l[i], l[i+1]})
	}
	return g
}

// some has n nodes and the first m pairs of them, in form.
func some(n, m int) api.Graph {
	g := api.Graph{N: n}
	for u := range n {
		for v := u + 1; v < n && len(g.Edges) < m; v++ {
			g.Edges = append(g.Edges, [2]int{u, v})
		}
	}
	return g
}

func full(n int) api.Graph { return some(n, n*(n-1)/2) }

func ring(n int) api.Graph {
	g := api.Graph{N: n}
	for u := range n {
		g.Edges = append(g.Edges, [2]int{u, (u + 1) % n})
	}
	return g
}

// stars has stars with so many leaves each, and nothing else.
func stars(leaves ...int) api.Graph {
	g := api.Graph{}
	for _, k := range leaves {
		for i := range k {
			g.Edges = append(g.Edges, [2]int{g.N, g.N + 1 + i})
		}
		g.N += k + 1
	}
	return g
}

// scrambled has the edges of g from the last to the first, every other one the other way round.
func scrambled(g api.Graph) api.Graph {
	h := api.Graph{N: g.N}
	for i := len(g.Edges) - 1; i >= 0; i-- {
		e := g.Edges[i]
		if i%2 == 0 {
			e[0], e[1] = e[1], e[0]
		}
		h.Edges = append(h.Edges, e)
	}
	return h
}

// small has all graphs of at most most nodes, in form.
func small(most int) []api.Graph {
	var out []api.Graph
	for n := range most + 1 {
		all := full(n).Edges
		for set := range 1 << len(all) {
			g := api.Graph{N: n}
			for i, e := range all {
				if set>>i&1 == 1 {
					g.Edges = append(g.Edges, e)
				}
			}
			out = append(out, g)
		}
	}
	return out
}

// has looks an edge up by going through the list, so that it shares nothing with the program.
func has(g api.Graph, u, v int) bool {
	return slices.Contains(g.Edges, [2]int{u, v}) || slices.Contains(g.Edges, [2]int{v, u})
}

// sift has n nodes and the edges that keep holds of, in form.
func sift(n int, keep func(u, v int) bool) api.Graph {
	g := api.Graph{N: n}
	for _, e := range full(n).Edges {
		if keep(e[0], e[1]) {
			g.Edges = append(g.Edges, e)
		}
	}
	return g
}

func equal(g, h api.Graph) bool { return g.N == h.N && slices.Equal(g.Edges, h.Edges) }

func wantGraph(t *testing.T, what string, got api.Graph, f api.Fault, want api.Graph) {
	t.Helper()
	if f != (api.Fault{}) || !equal(got, want) {
		t.Errorf("%s: %v %v, want %v", what, got, f, want)
	}
}

// wantFault: a fault, and beside it nothing.
func wantFault(t *testing.T, what string, got api.Graph, f, want api.Fault) {
	t.Helper()
	if f != want {
		t.Errorf("%s: fault %v, want %v", what, f, want)
	}
	if got.N != 0 || len(got.Edges) != 0 {
		t.Errorf("%s: %v beside the fault %v, want nothing", what, got, f)
	}
}

// one is a call that makes a graph of one graph.
type one struct {
	name string
	call func(api.Graph) (api.Graph, api.Fault)
}

func ones() []one {
	return []one{
		{"Form", graph.Form},
		{"Complement", graph.Complement},
		{"Line", graph.Line},
		{"Induced by none", func(g api.Graph) (api.Graph, api.Fault) { return graph.Induced(g, nil) }},
		{"Induced by 1, 0", func(g api.Graph) (api.Graph, api.Fault) { return graph.Induced(g, []int{1, 0}) }},
		{"Induced by -1", func(g api.Graph) (api.Graph, api.Fault) { return graph.Induced(g, []int{-1}) }},
	}
}

// two is a call that makes a graph of two graphs.
type two struct {
	name string
	call func(a, b api.Graph) (api.Graph, api.Fault)
}

func twos() []two { return []two{{"Join", graph.Join}, {"Product", graph.Product}} }
