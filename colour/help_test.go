package colour_test

import (
	"fmt"
	"slices"
	"testing"

	"arbor/api"
	"arbor/colour"
)

func fault(code, at int) api.Fault { return api.Fault{Code: code, At: at} }

// of makes a graph of n nodes and the edges l[0]-l[1], l[2]-l[3], ..
func of(n int, l ...int) api.Graph {
	g := api.Graph{N: n}
	for i := 0; i+1 < len(l); i += 2 {
		g.Edges = append(g.Edges, [2]int{l[i], l[i+1]})
	}
	return g
}

// some has n nodes and the first m pairs of them, in form.
func some(n, m int) api.Graph {
	g := api.Graph{N: n}
	for u := range n {
		for v := u + 1; v < n && len(g.Edges) < m; v++ {
			g.Edges = append(g.Edges, [2]int{u, v})
		}
	}
	return g
}

func full(n int) api.Graph { return some(n, n*(n-1)/2) }

// path goes through all nodes, in their order.
func path(n int) api.Graph {
	g := api.Graph{N: n}
	for v := 1; v < n; v++ {
		g.Edges = append(g.Edges, [2]int{v - 1, v})
	}
	return g
}

func ring(n int) api.Graph { return with(path(n), n-1, 0) }

func star(n int) api.Graph { return some(n, n-1) }

// with is g with the edges l[0]-l[1], l[2]-l[3], .. behind its own.
func with(g api.Graph, l ...int) api.Graph {
	return api.Graph{N: g.N, Edges: slices.Concat(g.Edges, of(g.N, l...).Edges)}
}

// twoSides has an edge from each of a nodes to each of b others.
func twoSides(a, b int) api.Graph {
	g := api.Graph{N: a + b}
	for u := range a {
		for v := range b {
			g.Edges = append(g.Edges, [2]int{u, a + v})
		}
	}
	return g
}

func grid(rows, columns int) api.Graph {
	g := api.Graph{N: rows * columns}
	for v := range g.N {
		if v%columns < columns-1 {
			g.Edges = append(g.Edges, [2]int{v, v + 1})
		}
		if v+columns < g.N {
			g.Edges = append(g.Edges, [2]int{v, v + columns})
		}
	}
	return g
}

func petersen() api.Graph {
	g := api.Graph{N: 10}
	for i := range 5 {
		g.Edges = append(g.Edges, [2]int{i, (i + 1) % 5}, [2]int{i, i + 5}, [2]int{5 + i, 5 + (i+2)%5})
	}
	return g
}

// nextTo has the nodes of a, behind them those of b.
func nextTo(a, b api.Graph) api.Graph {
	g := api.Graph{N: a.N + b.N, Edges: slices.Clone(a.Edges)}
	for _, e := range b.Edges {
		g.Edges = append(g.Edges, [2]int{e[0] + a.N, e[1] + a.N})
	}
	return g
}

// layers has so many layers of so many nodes, with all edges from each layer to the next.
func layers(many, size int) api.Graph {
	g := api.Graph{N: many * size}
	for u := range g.N {
		for v := u/size*size + size; v < min(g.N, u/size*size+2*size); v++ {
			g.Edges = append(g.Edges, [2]int{u, v})
		}
	}
	return g
}

// turned has node v of g as node (v*step+2) % N, so that numbers say nothing of places; step and N have no divisor together.
func turned(g api.Graph, step int) api.Graph {
	h := api.Graph{N: g.N}
	for _, e := range g.Edges {
		h.Edges = append(h.Edges, [2]int{(e[0]*step + 2) % g.N, (e[1]*step + 2) % g.N})
	}
	return h
}

// scrambled has the edges of g from the last to the first, every other one the other way round.
func scrambled(g api.Graph) api.Graph {
	h := api.Graph{N: g.N}
	for i := len(g.Edges) - 1; i >= 0; i-- {
		e := g.Edges[i]
		if i%2 == 0 {
			e[0], e[1] = e[1], e[0]
		}
		h.Edges = append(h.Edges, e)
	}
	return h
}

// small has all graphs of n nodes, in form.
func small(n int) []api.Graph {
	var out []api.Graph
	all := full(n).Edges
	for set := range 1 << len(all) {
		g := api.Graph{N: n}
		for i, e := range all {
			if set>>i&1 == 1 {
				g.Edges = append(g.Edges, e)
			}
		}
		out = append(out, g)
	}
	return out
}

// drawFrom answers a function that draws numbers below some n, none of them chosen by hand; the same ones each time.
func drawFrom(seed int) func(n int) int {
	x := uint64(seed)*2654435761 + 12345
	return func(n int) int {
		x = x*6364136223846793005 + 1442695040888963407
		return int(x>>33) % n
	}
}

// mixed has n nodes and those of tries pairs of them that a graph may have.
func mixed(n, tries, seed int) api.Graph {
	draw := drawFrom(seed)
	g := api.Graph{N: n}
	for range tries {
		u, v := draw(n), draw(n)
		if u != v && !has(g, u, v) && len(g.Edges) < api.MaxEdges {
			g.Edges = append(g.Edges, [2]int{u, v})
		}
	}
	return g
}

// medium has graphs of some nodes, from hardly any edges to most of them.
func medium() []api.Graph {
	out := []api.Graph{petersen(), grid(3, 4), scrambled(grid(4, 3)), turned(grid(2, 7), 3), twoSides(3, 5), full(12), layers(4, 3), turned(layers(3, 4), 5)}
	for seed := range 200 {
		out = append(out, mixed(6+seed%9, 3+seed%41, seed))
	}
	return out
}

// great has graphs at the limits, or near them.
func great() []api.Graph {
	out := []api.Graph{
		of(api.MaxNodes), path(api.MaxNodes), ring(api.MaxNodes), star(api.MaxNodes), full(45),
		some(api.MaxNodes, api.MaxEdges), twoSides(25, 40), twoSides(10, 90), grid(10, 10), turned(grid(10, 10), 37), grid(2, 50),
		layers(10, 10), turned(layers(10, 10), 37), layers(20, 5), layers(33, 3), turned(path(api.MaxNodes), 37), turned(ring(api.MaxNodes), 37),
		nextTo(ring(51), path(49)), nextTo(full(40), nextTo(ring(30), star(30))), turned(nextTo(full(40), nextTo(ring(31), star(28))), 7),
	}
	for seed := range 20 {
		out = append(out, mixed(api.MaxNodes-seed%3, 60+seed*40, seed))
	}
	return append(out, mixed(api.MaxNodes, 1300, 99))
}

// has looks an edge up by going through the list.
func has(g api.Graph, u, v int) bool {
	return slices.Contains(g.Edges, [2]int{u, v}) || slices.Contains(g.Edges, [2]int{v, u})
}

// wheelOf has an edge from each of n nodes to those that are so many steps ahead of it, round and round.
func wheelOf(n int, steps ...int) api.Graph {
	g := api.Graph{N: n}
	for _, step := range steps {
		for v := range n {
			if u := (v + step) % n; !has(g, u, v) {
				g.Edges = append(g.Edges, [2]int{v, u})
			}
		}
	}
	return g
}

// regular has n nodes, each with so many edges, which go anywhere; n times many is even.
func regular(n, many, seed int) api.Graph {
	var steps []int
	for step := 1; step <= many/2; step++ {
		steps = append(steps, step)
	}
	if many%2 == 1 {
		steps = append(steps, n/2)
	}
	g := wheelOf(n, steps...)
	draw := drawFrom(seed)
	for range 5 * len(g.Edges) {
		i, j := draw(len(g.Edges)), draw(len(g.Edges))
		a, b, c, d := g.Edges[i][0], g.Edges[i][1], g.Edges[j][0], g.Edges[j][1]
		if draw(2) == 0 {
			c, d = d, c
		}
		if a != d && b != c && !has(g, a, d) && !has(g, b, c) {
			g.Edges[i], g.Edges[j] = [2]int{a, d}, [2]int{c, b}
		}
	}
	return g
}

// without is g without the edges l[0]-l[1], l[2]-l[3], ..
func without(g api.Graph, l ...int) api.Graph {
	gone := of(g.N, l...)
	left := slices.DeleteFunc(slices.Clone(g.Edges), func(e [2]int) bool { return has(gone, e[0], e[1]) })
	return api.Graph{N: g.N, Edges: left}
}

// chain has copies of the nodes below many+1 with all edges but that between the first and the last, and an edge from the last node of each copy to the first node of the next: all nodes have many edges, but the first and the last.
func chain(copies, many int) api.Graph {
	size := many + 1
	g := api.Graph{}
	for at := range copies {
		g = nextTo(g, without(full(size), 0, many))
		if at > 0 {
			g = with(g, at*size-1, at*size)
		}
	}
	return g
}

// necklace is a chain with its ends together: two nodes can part it, but no one node.
func necklace(copies, many int) api.Graph {
	g := chain(copies, many)
	return with(g, g.N-1, 0)
}

// petals has a middle node, the last one, to which both ends of each chain go: it parts them, and all nodes have as many edges, an even number.
func petals(copies, many int) api.Graph {
	g := api.Graph{}
	for range many / 2 {
		g = nextTo(g, chain(copies, many))
	}
	g.N++
	size := copies * (many + 1)
	for at := range many / 2 {
		g = with(g, g.N-1, at*size, g.N-1, (at+1)*size-1)
	}
	return g
}

// bulb has an odd number of edges at each node, but one less at its first one.
func bulb(many int) api.Graph {
	g := without(full(many+2), 0, 1, 0, 2)
	for v := 3; v < g.N; v += 2 {
		g = without(g, v, v+1)
	}
	return g
}

// bulbs has a middle node, the last one, with an edge to the first node of so many bulbs: bridges.
func bulbs(many int) api.Graph {
	g := api.Graph{}
	for range many {
		g = nextTo(g, bulb(many))
	}
	g.N++
	for at := range many {
		g = with(g, g.N-1, at*(many+2))
	}
	return g
}

// opened has one node more than g, the last one, which stands in the middle of so many edges of g that have no node together.
func opened(g api.Graph, edges int) api.Graph {
	h := api.Graph{N: g.N + 1}
	taken := make([]bool, g.N)
	for _, e := range g.Edges {
		if edges == 0 || taken[e[0]] || taken[e[1]] {
			h = with(h, e[0], e[1])
			continue
		}
		edges--
		taken[e[0]], taken[e[1]] = true, true
		h = with(h, e[0], g.N, g.N, e[1])
	}
	return h
}

// tied has the nodes of a, behind them those of b, but the last node of b is that of a.
func tied(a, b api.Graph) api.Graph {
	g := api.Graph{N: a.N + b.N - 1, Edges: slices.Clone(a.Edges)}
	place := func(v int) int {
		if v == b.N-1 {
			return a.N - 1
		}
		return a.N + v
	}
	for _, e := range b.Edges {
		g = with(g, place(e[0]), place(e[1]))
	}
	return g
}

// cutEven has two graphs that go anywhere, all nodes with as many edges, and between them a node or an edge through which all ways lead.
func cutEven(n, many, seed int) api.Graph {
	a, b := regular(n, many, seed), regular(n+2, many, seed+1)
	if many%2 == 1 {
		a, b = opened(a, many/2), opened(b, many/2)
		return with(nextTo(a, b), a.N-1, a.N+b.N-1)
	}
	part := 1 + seed%(many/2-1)
	return tied(opened(a, part), opened(b, many/2-part))
}

// even has graphs in which all nodes have as many edges, so that none is there for the last colour; with cuts and without.
func even() []api.Graph {
	var out []api.Graph
	for many := 3; many <= 9; many++ {
		for copies := 2; copies*(many+1) <= api.MaxNodes && copies < 8; copies++ {
			out = append(out, necklace(copies, many), turned(necklace(copies, many), 101))
		}
		for _, n := range []int{many + 3, 2*many + 2, 30, 50, 100} {
			if n*many%2 == 0 {
				out = append(out, regular(n, many, n+many))
			}
		}
	}
	for _, many := range []int{3, 5, 7, 9} {
		two := with(nextTo(bulb(many), bulb(many)), 0, many+2)
		out = append(out, two, scrambled(two), bulbs(many), turned(bulbs(many), 7))
	}
	for _, many := range []int{4, 6, 8} {
		out = append(out, petals(1, many), scrambled(petals(1, many)), petals(2, many), turned(petals(2, many), 101))
	}
	for seed := range 300 {
		many := 3 + seed%6
		out = append(out, cutEven(many+4+many%2+seed%3*2, many, seed))
	}
	return append(out, petersen(), wheelOf(100, 1, 50), wheelOf(99, 1, 2), wheelOf(44, 1, 2, 3, 4, 5, 6, 7, 8, 9, 10, 11, 12, 13, 14, 15, 16, 17, 18, 19, 20, 22), wheelOf(46, 1, 2, 3, 4, 5, 6, 7, 8, 9, 10, 11, 12, 13, 14, 15, 16, 17, 18, 19, 20, 21),
		twoSides(31, 31), wheelOf(8, 1, 2, 3), wheelOf(9, 1, 2, 3), wheelOf(6, 1, 2), twoSides(3, 3), regular(40, 24, 1), regular(90, 22, 5), regular(46, 43, 8))
}

// wantFault: a fault, and beside it nothing.
func wantFault(t *testing.T, what string, got answer, f, want api.Fault) {
	t.Helper()
	if f != want || got.number != 0 || len(got.list) != 0 {
		t.Errorf("%s: %v %v, want nothing and %v", what, got, f, want)
	}
}

// answer is what any of the calls answers beside a fault.
type answer struct {
	number int
	list   []int
}

type call struct {
	name  string
	limit int // of nodes
	ask   func(g api.Graph) (answer, api.Fault)
}

func oneList(name string, limit int, ask func(g api.Graph) ([]int, api.Fault)) call {
	return call{name, limit, func(g api.Graph) (answer, api.Fault) {
		l, f := ask(g)
		return answer{list: l}, f
	}}
}

func askNumber() call {
	return call{"Number", api.MaxSmall, func(g api.Graph) (answer, api.Fault) {
		k, colours, f := colour.Number(g)
		return answer{k, colours}, f
	}}
}

func calls() []call {
	return []call{askNumber(), oneList("Poly", api.MaxSmall, colour.Poly), oneList("Edges", api.MaxNodes, colour.Edges), oneList("Brooks", api.MaxNodes, colour.Brooks), oneList("Clique", 2*api.MaxSmall, colour.Clique)}
}

// tellAll tells what all calls answer.
func tellAll(g api.Graph) string {
	out := ""
	for _, c := range calls() {
		out += fmt.Sprint(c.ask(g))
	}
	return out
}
