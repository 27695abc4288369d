package chords_test

import (
	"fmt"
	"slices"
	"testing"

	"arbor/api"
	"arbor/chords"
)

func fault(code, at int) api.Fault { return api.Fault{Code: code, At: at} }

// of makes a graph of n nodes and the edges l[0]-l[1], l[2]-l[3], ..
func of(n int, l ...int) api.Graph {
	g := api.Graph{N: n}
	for i := 0; i+1 < len(l); i += 2 {
		g.Edges = append(g.Edges, [2]int{l[i], l[i+1]})
	}
	return g
}

// some has n nodes and the first m pairs of them, in form.
func some(n, m int) api.Graph {
	g := api.Graph{N: n}
	for u := range n {
		for v := u + 1; v < n && len(g.Edges) < m; v++ {
			g.Edges = append(g.Edges, [2]int{u, v})
		}
	}
	return g
}

func full(n int) api.Graph { return some(n, n*(n-1)/2) }

// path goes through all nodes, in their order.
func path(n int) api.Graph {
	g := api.Graph{N: n}
	for v := 1; v < n; v++ {
		g.Edges = append(g.Edges, [2]int{v - 1, v})
	}
	return g
}

func ring(n int) api.Graph { return with(path(n), n-1, 0) }

func star(n int) api.Graph { return some(n, n-1) }

// with is g with the edges l[0]-l[1], l[2]-l[3], .. behind its own.
func with(g api.Graph, l ...int) api.Graph {
	return api.Graph{N: g.N, Edges: slices.Concat(g.Edges, of(g.N, l...).Edges)}
}

// without is g without the edges l[0]-l[1], l[2]-l[3], ..
func without(g api.Graph, l ...int) api.Graph {
	gone := of(g.N, l...)
	left := slices.DeleteFunc(slices.Clone(g.Edges), func(e [2]int) bool { return has(gone, e[0], e[1]) })
	return api.Graph{N: g.N, Edges: left}
}

// has looks an edge up by going through the list.
func has(g api.Graph, u, v int) bool {
	return slices.Contains(g.Edges, [2]int{u, v}) || slices.Contains(g.Edges, [2]int{v, u})
}

// sifted has n nodes, and an edge between two of them, the lesser one first, where near says so.
func sifted(n int, near func(u, v int) bool) api.Graph {
	g := api.Graph{N: n}
	for _, e := range full(n).Edges {
		if near(e[0], e[1]) {
			g.Edges = append(g.Edges, e)
		}
	}
	return g
}

// other has an edge just where g has none.
func other(g api.Graph) api.Graph {
	near := table(g)
	return sifted(g.N, func(u, v int) bool { return !near[u][v] })
}

// sides has an edge from each of a nodes to each of b others.
func sides(a, b int) api.Graph {
	return sifted(a+b, func(u, v int) bool { return u < a && v >= a })
}

// groups has so many sets of so many nodes, and all edges but those between two of one set.
func groups(many, size int) api.Graph {
	return sifted(many*size, func(u, v int) bool { return u/size != v/size })
}

func grid(rows, columns int) api.Graph {
	return sifted(rows*columns, func(u, v int) bool { return v == u+columns || v == u+1 && v%columns > 0 })
}

func petersen() api.Graph {
	g := api.Graph{N: 10}
	for i := range 5 {
		g.Edges = append(g.Edges, [2]int{i, (i + 1) % 5}, [2]int{i, i + 5}, [2]int{5 + i, 5 + (i+2)%5})
	}
	return g
}

// legs has a middle node, 0, and so many paths of so many nodes that begin at it.
func legs(many, size int) api.Graph {
	g := api.Graph{N: 1 + many*size}
	for v := 1; v < g.N; v++ {
		up := v - 1
		if up%size == 0 {
			up = 0
		}
		g = with(g, up, v)
	}
	return g
}

// nextTo has the nodes of a, behind them those of b.
func nextTo(a, b api.Graph) api.Graph {
	g := api.Graph{N: a.N + b.N, Edges: slices.Clone(a.Edges)}
	for _, e := range b.Edges {
		g.Edges = append(g.Edges, [2]int{e[0] + a.N, e[1] + a.N})
	}
	return g
}

// joined is a next to b, with all edges from one to the other.
func joined(a, b api.Graph) api.Graph {
	g := nextTo(a, b)
	for u := range a.N {
		for v := range b.N {
			g = with(g, u, a.N+v)
		}
	}
	return g
}

// renamed has node v of g as node names[v].
func renamed(g api.Graph, names []int) api.Graph {
	h := api.Graph{N: g.N}
	for _, e := range g.Edges {
		h.Edges = append(h.Edges, [2]int{names[e[0]], names[e[1]]})
	}
	return h
}

// shuffled is g with other numbers for its nodes, so that they say nothing of places.
func shuffled(g api.Graph, seed int) api.Graph { return renamed(g, deck(g.N, drawFrom(seed))) }

// scrambled has the edges of g from the last to the first, every other one the other way round.
func scrambled(g api.Graph) api.Graph {
	h := api.Graph{N: g.N}
	for i, e := range slices.Backward(g.Edges) {
		if i%2 == 0 {
			e[0], e[1] = e[1], e[0]
		}
		h.Edges = append(h.Edges, e)
	}
	return h
}

// small has all graphs of n nodes, in form.
func small(n int) []api.Graph {
	var out []api.Graph
	all := full(n).Edges
	for set := range 1 << len(all) {
		g := api.Graph{N: n}
		for i, e := range all {
			if set>>i&1 == 1 {
				g.Edges = append(g.Edges, e)
			}
		}
		out = append(out, g)
	}
	return out
}

// drawFrom answers a function that draws numbers below some n, none of them chosen by hand; the same ones each time.
func drawFrom(seed int) func(n int) int {
	x := uint64(seed)*2654435761 + 12345
	return func(n int) int {
		x = x*6364136223846793005 + 1442695040888963407
		return int(x>>33) % n
	}
}

// deck has the numbers below n, in an order that draw chooses.
func deck(n int, draw func(n int) int) []int {
	var l []int
	for v := range n {
		l = slices.Insert(l, draw(v+1), v)
	}
	return l
}

// mixed has n nodes and those of tries pairs of them that a graph may have.
func mixed(n, tries, seed int) api.Graph {
	draw := drawFrom(seed)
	g := api.Graph{N: n}
	for range tries {
		u, v := draw(n), draw(n)
		if u != v && !has(g, u, v) && len(g.Edges) < api.MaxEdges {
			g.Edges = append(g.Edges, [2]int{u, v})
		}
	}
	return g
}

// grown has no hole: each node comes with edges to some nodes of a clique that is there already, at most most of them.
func grown(n, most, seed int) api.Graph {
	draw := drawFrom(seed)
	g := of(n)
	cliques := [][]int{{0}}
	for v := 1; v < n; v++ {
		clique := slices.Clone(cliques[draw(len(cliques))])
		for len(clique) > most {
			at := draw(len(clique))
			clique = slices.Delete(clique, at, at+1)
		}
		for _, u := range clique {
			g = with(g, u, v)
		}
		cliques = append(cliques, append(clique, v))
	}
	return shuffled(g, seed)
}

// meeting has an edge between two nodes where intervals of these lengths at most meet, which begin at numbers below room.
func meeting(n, room, length, seed int) api.Graph {
	draw := drawFrom(seed)
	var spans [][2]int
	for range n {
		a := draw(room)
		spans = append(spans, [2]int{a, a + draw(length)})
	}
	return sifted(n, func(u, v int) bool { return spans[u][0] <= spans[v][1] && spans[v][0] <= spans[u][1] })
}

// ordered has an edge between two nodes where each of so many orders of the nodes has the same one of the two first.
func ordered(n, orders, seed int) api.Graph {
	draw := drawFrom(seed)
	var places [][]int
	for range orders {
		places = append(places, deck(n, draw))
	}
	return sifted(n, func(u, v int) bool {
		ahead := 0
		for _, place := range places {
			if place[u] < place[v] {
				ahead++
			}
		}
		return ahead == 0 || ahead == orders
	})
}

// great has graphs at the limits, or near them.
func great() []api.Graph {
	out := []api.Graph{
		of(api.MaxNodes), path(api.MaxNodes), ring(api.MaxNodes), star(api.MaxNodes), full(45), some(api.MaxNodes, api.MaxEdges), sides(25, 40), sides(10, 90),
		grid(10, 10), shuffled(grid(10, 10), 1), grid(2, 50), shuffled(path(api.MaxNodes), 2), shuffled(ring(api.MaxNodes), 3), shuffled(legs(9, 11), 4), legs(33, 3),
		nextTo(full(40), nextTo(ring(30), star(30))), shuffled(nextTo(full(40), nextTo(ring(31), star(29))), 5), groups(20, 2), groups(4, 6), shuffled(groups(14, 3), 6),
		joined(ring(5), full(35)), joined(full(35), of(10)), joined(ring(30), full(20)), nextTo(grown(90, 8, 7), ring(10)), shuffled(nextTo(grown(96, 8, 8), ring(4)), 9),
	}
	for seed := range 20 {
		out = append(out, mixed(api.MaxNodes-seed%3, 60+seed*40, seed), grown(api.MaxNodes, 1+seed%10, seed), meeting(api.MaxNodes, 200, 30, seed), ordered(45, 2+seed%4, seed))
	}
	return append(out, mixed(api.MaxNodes, 1300, 99))
}

// answer is what any of the calls answers beside a fault.
type answer struct {
	order, hole []int
	cliques     [][]int
	pairs       [][2]int
}

func (a answer) isEmpty() bool { return len(a.order)+len(a.hole)+len(a.cliques)+len(a.pairs) == 0 }

type call struct {
	name  string
	limit int // of nodes
	ask   func(g api.Graph) (answer, api.Fault)
}

func calls() []call {
	return []call{
		{"Order", api.MaxNodes, func(g api.Graph) (a answer, f api.Fault) { a.order, a.hole, f = chords.Order(g); return }},
		{"Cliques", 2 * api.MaxSmall, func(g api.Graph) (a answer, f api.Fault) { a.cliques, f = chords.Cliques(g); return }},
		{"Intervals", api.MaxSmall, func(g api.Graph) (a answer, f api.Fault) { a.pairs, f = chords.Intervals(g); return }},
		{"Orders", api.MaxNodes, func(g api.Graph) (a answer, f api.Fault) { a.pairs, f = chords.Orders(g); return }},
	}
}

// tellAll tells what all calls answer.
func tellAll(g api.Graph) string {
	out := ""
	for _, c := range calls() {
		out += fmt.Sprint(c.ask(g))
	}
	return out
}

// wantFault: a fault, and beside it nothing.
func wantFault(t *testing.T, what string, got answer, f, want api.Fault) {
	t.Helper()
	if f != want || !got.isEmpty() {
		t.Errorf("%s: %v %v, want nothing and %v", what, got, f, want)
	}
}
