package draw_test

import (
	"fmt"
	"slices"
	"testing"

	"arbor/api"
	"arbor/draw"
)

func fault(code, at int) api.Fault { return api.Fault{Code: code, At: at} }

// of makes a graph of n nodes and the edges l[0]-l[1], l[2]-l[3], ..
func of(n int, l ...int) api.Graph {
	g := api.Graph{N: n}
	for i := 0; i+1 < len(l); i += 2 {
		g.Edges = append(g.Edges, [2]int{l[i], l[i+1]})
	}
	return g
}

// some has n nodes and the first m pairs of them, in form.
func some(n, m int) api.Graph {
	g := api.Graph{N: n}
	for u := range n {
		for v := u + 1; v < n && len(g.Edges) < m; v++ {
			g.Edges = append(g.Edges, [2]int{u, v})
		}
	}
	return g
}

func full(n int) api.Graph { return some(n, n*(n-1)/2) }

// path goes through all nodes, in their order.
func path(n int) api.Graph {
	g := api.Graph{N: n}
	for v := 1; v < n; v++ {
		g.Edges = append(g.Edges, [2]int{v - 1, v})
	}
	return g
}

func ring(n int) api.Graph { return with(path(n), n-1, 0) }

func star(n int) api.Graph { return some(n, n-1) }

// with is g with the edges l[0]-l[1], l[2]-l[3], .. behind its own.
func with(g api.Graph, l ...int) api.Graph {
	return api.Graph{N: g.N, Edges: slices.Concat(g.Edges, of(g.N, l...).Edges)}
}

// without is g without the edges l[0]-l[1], l[2]-l[3], ..
func without(g api.Graph, l ...int) api.Graph {
	gone := of(g.N, l...)
	left := slices.DeleteFunc(slices.Clone(g.Edges), func(e [2]int) bool { return has(gone, e[0], e[1]) })
	return api.Graph{N: g.N, Edges: left}
}

// has looks an edge up by going through the list.
func has(g api.Graph, u, v int) bool {
	return slices.Contains(g.Edges, [2]int{u, v}) || slices.Contains(g.Edges, [2]int{v, u})
}

// sifted has n nodes, and an edge between two of them, the lesser one first, where near says so.
func sifted(n int, near func(u, v int) bool) api.Graph {
	g := api.Graph{N: n}
	for _, e := range full(n).Edges {
		if near(e[0], e[1]) {
			g.Edges = append(g.Edges, e)
		}
	}
	return g
}

// sides has an edge from each of a nodes to each of b others.
func sides(a, b int) api.Graph {
	return sifted(a+b, func(u, v int) bool { return u < a && v >= a })
}

// groups has so many sets of so many nodes, and all edges but those between two of one set.
func groups(many, size int) api.Graph {
	return sifted(many*size, func(u, v int) bool { return u/size != v/size })
}

func grid(rows, columns int) api.Graph {
	return sifted(rows*columns, func(u, v int) bool { return v == u+columns || v == u+1 && v%columns > 0 })
}

// net is a grid with one chord in each of its squares, drawn this way or that way.
func net(rows, columns, seed int) api.Graph {
	next := drawFrom(seed)
	g := grid(rows, columns)
	for row := range rows - 1 {
		for column := range columns - 1 {
			at := row*columns + column
			if next(2) == 0 {
				g = with(g, at, at+columns+1)
			} else {
				g = with(g, at+1, at+columns)
			}
		}
	}
	return g
}

// tyre is a grid that goes round both ways.
func tyre(rows, columns int) api.Graph {
	g := of(rows * columns)
	for row := range rows {
		for column := range columns {
			at := row*columns + column
			g = with(g, at, row*columns+(column+1)%columns, at, (row+1)%rows*columns+column)
		}
	}
	return g
}

// prism has two rings, and an edge from each node of the one to that of the other.
func prism(n int) api.Graph {
	g := nextTo(ring(n), ring(n))
	for v := range n {
		g = with(g, v, n+v)
	}
	return g
}

// twisted is a ring with an edge from each node to the one on the other side.
func twisted(n int) api.Graph {
	g := ring(2 * n)
	for v := range n {
		g = with(g, v, n+v)
	}
	return g
}

// cube has an edge between two nodes whose numbers differ in one of so many bits.
func cube(bits int) api.Graph {
	return sifted(1<<bits, func(u, v int) bool { d := u ^ v; return d&(d-1) == 0 })
}

// wheel is a ring of n nodes with one more in its middle, far above it one more if there are two.
func wheel(n, middles int) api.Graph { return joined(ring(n), of(middles)) }

// jumps is a ring in which each node has edges with those so far from it, too.
func jumps(n int, far ...int) api.Graph {
	return sifted(n, func(u, v int) bool { return slices.Contains(far, v-u) || slices.Contains(far, n-v+u) })
}

// twenty has twenty nodes, each with three edges, and twelve faces of five nodes each.
func twenty() api.Graph {
	g := of(20)
	for i := range 5 {
		next := (i + 1) % 5
		g = with(g, i, next, i, 5+i, 5+i, 10+i, 5+next, 10+i, 10+i, 15+i, 15+i, 15+next)
	}
	return g
}

func petersen() api.Graph {
	g := api.Graph{N: 10}
	for i := range 5 {
		g.Edges = append(g.Edges, [2]int{i, (i + 1) % 5}, [2]int{i, i + 5}, [2]int{5 + i, 5 + (i+2)%5})
	}
	return g
}

// nextTo has the nodes of a, behind them those of b.
func nextTo(a, b api.Graph) api.Graph {
	g := api.Graph{N: a.N + b.N, Edges: slices.Clone(a.Edges)}
	for _, e := range b.Edges {
		g.Edges = append(g.Edges, [2]int{e[0] + a.N, e[1] + a.N})
	}
	return g
}

// atNode has a and b, the first node of b being the node v of a.
func atNode(a, b api.Graph, v int) api.Graph {
	name := func(u int) int {
		if u == 0 {
			return v
		}
		return a.N + u - 1
	}
	g := api.Graph{N: a.N + b.N - 1, Edges: slices.Clone(a.Edges)}
	for _, e := range b.Edges {
		g.Edges = append(g.Edges, [2]int{name(e[0]), name(e[1])})
	}
	return g
}

// chain has copies of g at each other, the last node of one being the first node of the next one.
func chain(g api.Graph, many int) api.Graph {
	out := g
	for range many - 1 {
		out = atNode(out, g, out.N-1)
	}
	return out
}

// joined is a next to b, with all edges from one to the other.
func joined(a, b api.Graph) api.Graph {
	g := nextTo(a, b)
	for u := range a.N {
		for v := range b.N {
			g = with(g, u, a.N+v)
		}
	}
	return g
}

// longer is g with nodes on its edges, so that there are n of them in all: again and again one comes on the edge that has waited longest.
func longer(g api.Graph, n int) api.Graph {
	edges := slices.Clone(g.Edges)
	for v := g.N; v < n; v++ {
		e := edges[0]
		edges = append(edges[1:], [2]int{e[0], v}, [2]int{v, e[1]})
	}
	return api.Graph{N: n, Edges: edges}
}

// renamed has node v of g as node names[v].
func renamed(g api.Graph, names []int) api.Graph {
	h := api.Graph{N: g.N}
	for _, e := range g.Edges {
		h.Edges = append(h.Edges, [2]int{names[e[0]], names[e[1]]})
	}
	return h
}

// shuffled is g with other numbers for its nodes, so that they say nothing of places.
func shuffled(g api.Graph, seed int) api.Graph { return renamed(g, deck(g.N, drawFrom(seed))) }

// scrambled has the edges of g from the last to the first, every other one the other way round.
func scrambled(g api.Graph) api.Graph {
	h := api.Graph{N: g.N}
	for i, e := range slices.Backward(g.Edges) {
		if i%2 == 0 {
			e[0], e[1] = e[1], e[0]
		}
		h.Edges = append(h.Edges, e)
	}
	return h
}

// small has all graphs of n nodes, in form.
func small(n int) []api.Graph {
	var out []api.Graph
	all := full(n).Edges
	for set := range 1 << len(all) {
		out = append(out, chosen(n, set))
	}
	return out
}

// chosen has n nodes and those pairs of them whose bits are 1.
func chosen(n, set int) api.Graph {
	g := api.Graph{N: n}
	for i, e := range full(n).Edges {
		if set>>i&1 == 1 {
			g.Edges = append(g.Edges, e)
		}
	}
	return g
}

// drawFrom answers a function that draws numbers below some n, none of them chosen by hand; the same ones each time.
func drawFrom(seed int) func(n int) int {
	x := uint64(seed)*2654435761 + 12345
	return func(n int) int {
		x = x*6364136223846793005 + 1442695040888963407
		return int(x>>33) % n
	}
}

// deck has the numbers below n, in an order that next chooses.
func deck(n int, next func(n int) int) []int {
	var l []int
	for v := range n {
		l = slices.Insert(l, next(v+1), v)
	}
	return l
}

// mixed has n nodes and those of tries pairs of them that a graph may have.
func mixed(n, tries, seed int) api.Graph {
	next := drawFrom(seed)
	g := api.Graph{N: n}
	for range tries {
		u, v := next(n), next(n)
		if u != v && !has(g, u, v) && len(g.Edges) < api.MaxEdges {
			g.Edges = append(g.Edges, [2]int{u, v})
		}
	}
	return g
}

// packed is in the plane, and has as many edges as can be there: each node from the fourth on stands in a triangle, and some edges are turned to the other two nodes of their two triangles, where these have none.
func packed(n, turns, seed int) api.Graph {
	next := drawFrom(seed)
	triangles := [][3]int{{0, 1, 2}, {0, 2, 1}}
	g := ring(3)
	for v := 3; v < n; v++ {
		i := next(len(triangles))
		t := triangles[i]
		triangles[i] = [3]int{t[0], t[1], v}
		triangles = append(triangles, [3]int{t[1], t[2], v}, [3]int{t[2], t[0], v})
		g = with(api.Graph{N: v + 1, Edges: g.Edges}, t[0], v, t[1], v, t[2], v)
	}
	for range turns {
		g = turned(g, triangles, g.Edges[next(len(g.Edges))])
	}
	return shuffled(g, seed)
}

// turned turns one edge, and with it its two triangles, if it may be.
func turned(g api.Graph, triangles [][3]int, e [2]int) api.Graph {
	var at, tops []int
	for i, t := range triangles {
		for k := range 3 {
			if a, b := t[k], t[(k+1)%3]; a == e[0] && b == e[1] || a == e[1] && b == e[0] {
				at, tops = append(at, i), append(tops, t[(k+2)%3])
			}
		}
	}
	if tops[0] == tops[1] || has(g, tops[0], tops[1]) {
		return g
	}
	t := triangles[at[0]]
	a, b := e[0], e[1]
	if !slices.Contains([][3]int{{a, b, tops[0]}, {b, tops[0], a}, {tops[0], a, b}}, t) {
		a, b = b, a
	}
	triangles[at[0]], triangles[at[1]] = [3]int{tops[0], a, tops[1]}, [3]int{tops[1], b, tops[0]}
	return with(without(g, e[0], e[1]), tops[0], tops[1])
}

// thinned is g without some of its edges, each of them gone in so many of 100 cases.
func thinned(g api.Graph, gone, seed int) api.Graph {
	next := drawFrom(seed)
	left := slices.DeleteFunc(slices.Clone(g.Edges), func([2]int) bool { return next(100) < gone })
	return api.Graph{N: g.N, Edges: left}
}

// oneMore is g with one more edge; there must be room for it.
func oneMore(g api.Graph, seed int) api.Graph {
	next := drawFrom(seed)
	for {
		if u, v := next(g.N), next(g.N); u != v && !has(g, u, v) {
			return with(g, u, v)
		}
	}
}

// on has a point for each two numbers.
func on(l ...int) []api.Point {
	var at []api.Point
	for i := 0; i+1 < len(l); i += 2 {
		at = append(at, api.Point{X: l[i], Y: l[i+1]})
	}
	return at
}

// scattered has n points, X and Y drawn from -far to far.
func scattered(n, far int, next func(n int) int) []api.Point {
	var at []api.Point
	for range n {
		at = append(at, api.Point{X: next(2*far+1) - far, Y: next(2*far+1) - far})
	}
	return at
}

// moved has each point where to says.
func moved(at []api.Point, to func(p api.Point) api.Point) []api.Point {
	var out []api.Point
	for _, p := range at {
		out = append(out, to(p))
	}
	return out
}

// answer is what any of the calls answers beside a fault.
type answer struct {
	at []api.Point
	is bool
}

func (a answer) isEmpty() bool { return len(a.at) == 0 && !a.is }

type call struct {
	name string
	ask  func(g api.Graph, at []api.Point) (answer, api.Fault)
}

func calls() []call {
	return []call{
		{"Draw", func(g api.Graph, _ []api.Point) (a answer, f api.Fault) { a.at, f = draw.Draw(g); return }},
		{"Clear", func(g api.Graph, at []api.Point) (a answer, f api.Fault) { a.is, f = draw.Clear(g, at); return }},
	}
}

// tellAll tells what all calls answer.
func tellAll(g api.Graph, at []api.Point) string {
	out := ""
	for _, c := range calls() {
		out += fmt.Sprint(c.ask(g, at))
	}
	return out
}

// wantFault: a fault, and beside it nothing.
func wantFault(t *testing.T, what string, got answer, f, want api.Fault) {
	t.Helper()
	if f != want || !got.isEmpty() {
		t.Errorf("%s: %v %v, want nothing and %v", what, got, f, want)
	}
}
