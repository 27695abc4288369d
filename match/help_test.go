package match_test

import (
	"fmt"
	"slices"
	"testing"

	"arbor/api"
	"arbor/match"
)

func fault(code, at int) api.Fault { return api.Fault{Code: code, At: at} }

// of makes a graph of n nodes and the edges l[0]-l[1], l[2]-l[3], ..
func of(n int, l ...int) api.Graph {
	g := api.Graph{N: n}
	for i := 0; i+1 < len(l); i += 2 {
		g.Edges = append(g.Edges, [2]int{l[i], l[i+1]})
	}
	return g
}

// some has n nodes and the first m pairs of them, in form.
func some(n, m int) api.Graph {
	g := api.Graph{N: n}
	for u := range n {
		for v := u + 1; v < n && len(g.Edges) < m; v++ {
			g.Edges = append(g.Edges, [2]int{u, v})
		}
	}
	return g
}

func full(n int) api.Graph { return some(n, n*(n-1)/2) }

// path goes through all nodes, in their order.
func path(n int) api.Graph {
	g := api.Graph{N: n}
	for v := 1; v < n; v++ {
		g.Edges = append(g.Edges, [2]int{v - 1, v})
	}
	return g
}

func ring(n int) api.Graph { return with(path(n), n-1, 0) }

func star(n int) api.Graph { return some(n, n-1) }

// with is g with the edges l[0]-l[1], l[2]-l[3], .. behind its own.
func with(g api.Graph, l ...int) api.Graph {
	return api.Graph{N: g.N, Edges: slices.Concat(g.Edges, of(g.N, l...).Edges)}
}

// twoSides has an edge from each of a nodes to each of b others.
func twoSides(a, b int) api.Graph {
	g := api.Graph{N: a + b}
	for u := range a {
		for v := range b {
			g.Edges = append(g.Edges, [2]int{u, a + v})
		}
	}
	return g
}

func grid(rows, columns int) api.Graph {
	g := api.Graph{N: rows * columns}
	for v := range g.N {
		if v%columns < columns-1 {
			g.Edges = append(g.Edges, [2]int{v, v + 1})
		}
		if v+columns < g.N {
			g.Edges = append(g.Edges, [2]int{v, v + columns})
		}
	}
	return g
}

func petersen() api.Graph {
	g := api.Graph{N: 10}
	for i := range 5 {
		g.Edges = append(g.Edges, [2]int{i, (i + 1) % 5}, [2]int{i, i + 5}, [2]int{5 + i, 5 + (i+2)%5})
	}
	return g
}

// beside has the nodes of a, behind them those of b.
func beside(a, b api.Graph) api.Graph {
	g := api.Graph{N: a.N + b.N, Edges: slices.Clone(a.Edges)}
	for _, e := range b.Edges {
		g.Edges = append(g.Edges, [2]int{e[0] + a.N, e[1] + a.N})
	}
	return g
}

// turned has node v of g as node (v*step+2) % N, so that numbers say nothing of places; step and N have no divisor together.
func turned(g api.Graph, step int) api.Graph {
	h := api.Graph{N: g.N}
	for _, e := range g.Edges {
		h.Edges = append(h.Edges, [2]int{(e[0]*step + 2) % g.N, (e[1]*step + 2) % g.N})
	}
	return h
}

// scrambled has the edges of g from the last to the first, every other one the other way round.
func scrambled(g api.Graph) api.Graph {
	h := api.Graph{N: g.N}
	for i := len(g.Edges) - 1; i >= 0; i-- {
		e := g.Edges[i]
		if i%2 == 0 {
			e[0], e[1] = e[1], e[0]
		}
		h.Edges = append(h.Edges, e)
	}
	return h
}

// small has all graphs of at most most nodes, in form.
func small(most int) []api.Graph {
	var out []api.Graph
	for n := range most + 1 {
		all := full(n).Edges
		for set := range 1 << len(all) {
			g := api.Graph{N: n}
			for i, e := range all {
				if set>>i&1 == 1 {
					g.Edges = append(g.Edges, e)
				}
			}
			out = append(out, g)
		}
	}
	return out
}

// mixed has n nodes and those of tries pairs of them that a graph may have; no pair is chosen by hand, and they are the same ones each time.
func mixed(n, tries, seed int) api.Graph {
	x := uint64(seed)*2654435761 + 12345
	draw := func() int {
		x = x*6364136223846793005 + 1442695040888963407
		return int(x>>33) % n
	}
	g := api.Graph{N: n}
	for range tries {
		u, v := draw(), draw()
		if u != v && !has(g, u, v) && len(g.Edges) < api.MaxEdges {
			g.Edges = append(g.Edges, [2]int{u, v})
		}
	}
	return g
}

// wheel is a ring of n nodes, and a node that has an edge with each of them.
func wheel(n int) api.Graph {
	g := ring(n)
	g.N++
	for v := range n {
		g.Edges = append(g.Edges, [2]int{v, n})
	}
	return g
}

// chain has so many graphs, each with an edge from its last node to the first one of the next.
func chain(times int, g api.Graph) api.Graph {
	out := g
	for range times - 1 {
		out = with(beside(out, g), out.N-1, out.N)
	}
	return out
}

// flowers has rings of these numbers of nodes, and a way of two edges from each to the next and from the last to the first: so odd rings come up within odd rings when pairs are looked for.
func flowers(sizes ...int) api.Graph {
	g := api.Graph{}
	for _, size := range sizes {
		at := g.N
		g = beside(g, ring(size))
		if at > 0 {
			g = with(g, at-1, at)
		}
		g = with(beside(g, of(1)), at+size/2, at+size)
	}
	return with(g, g.N-1, 0)
}

// medium has graphs of some nodes, from hardly any edges to most of them.
func medium() []api.Graph {
	out := []api.Graph{petersen(), grid(3, 4), scrambled(grid(4, 3)), turned(grid(2, 7), 3), twoSides(3, 5), full(12)}
	out = append(out, wheel(5), wheel(6), chain(3, ring(3)), chain(4, ring(5)), flowers(3, 3), flowers(3, 5, 3), flowers(5, 3, 4), turned(flowers(3, 3, 3, 3), 7))
	for seed := range 1500 {
		out = append(out, mixed(6+seed%9, 3+seed%31, seed))
	}
	return out
}

// great has graphs at the limits, or near them.
func great() []api.Graph {
	out := []api.Graph{
		of(api.MaxNodes), path(api.MaxNodes), ring(api.MaxNodes), star(api.MaxNodes), full(45),
		some(api.MaxNodes, api.MaxEdges), ring(api.MaxNodes - 1), twoSides(25, 40), grid(10, 10), turned(grid(10, 10), 37),
		turned(path(api.MaxNodes), 37), turned(ring(api.MaxNodes), 37), turned(star(api.MaxNodes), 37),
		twoSides(1, 99), twoSides(10, 90), twoSides(50, 20), twoSides(31, 32), wheel(99), turned(wheel(98), 7),
		chain(33, ring(3)), chain(20, ring(5)), turned(chain(14, ring(7)), 3), chain(11, full(9)),
		flowers(3, 5, 7, 9, 11, 13, 15, 17, 11), turned(flowers(slices.Repeat([]int{3}, 24)...), 29), flowers(slices.Repeat([]int{5, 3, 4}, 6)...),
		beside(ring(51), path(49)), beside(full(40), beside(ring(30), star(30))),
		turned(beside(full(40), beside(ring(31), star(28))), 7),
	}
	for seed := range 60 {
		out = append(out, mixed(api.MaxNodes-seed%3, 20+seed*5, seed))
	}
	return append(out, mixed(api.MaxNodes, 1300, 99))
}

// has looks an edge up by going through the list.
func has(g api.Graph, u, v int) bool {
	return slices.Contains(g.Edges, [2]int{u, v}) || slices.Contains(g.Edges, [2]int{v, u})
}

// same holds what is told of two answers against each other; lists without elements are the same, nil or empty.
func same(t *testing.T, what string, got, want any, f api.Fault) {
	t.Helper()
	if fmt.Sprint(got) != fmt.Sprint(want) || f != (api.Fault{}) {
		t.Errorf("%s: %v %v, want %v", what, got, f, want)
	}
}

// wantFault: a fault, and beside it nothing.
func wantFault(t *testing.T, what string, got answer, f, want api.Fault) {
	t.Helper()
	if f != want || len(got.pairs)+len(got.first)+len(got.second)+len(got.third)+len(got.text) != 0 {
		t.Errorf("%s: %v %v, want nothing and %v", what, got, f, want)
	}
}

// answer is what any of the calls answers beside a fault.
type answer struct {
	pairs                [][2]int
	first, second, third []int
	text                 string
}

type call struct {
	name string
	ask  func(g api.Graph) (answer, api.Fault)
}

func calls() []call {
	return []call{
		{"Most", func(g api.Graph) (answer, api.Fault) {
			pairs, set, f := match.Most(g)
			return answer{pairs: pairs, first: set}, f
		}},
		{"Split", func(g api.Graph) (answer, api.Fault) {
			d, a, c, f := match.Split(g)
			return answer{first: d, second: a, third: c}, f
		}},
		{"Cover", func(g api.Graph) (answer, api.Fault) {
			pairs, cover, f := match.Cover(g)
			return answer{pairs: pairs, first: cover}, f
		}},
		{"Count", func(g api.Graph) (answer, api.Fault) {
			text, f := match.Count(g)
			return answer{text: text}, f
		}},
	}
}
