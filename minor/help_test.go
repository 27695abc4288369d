package minor_test

import (
	"fmt"
	"slices"

	"arbor/api"
	"arbor/minor"
)

func fault(code, at int) api.Fault { return api.Fault{Code: code, At: at} }

// of makes a graph of n nodes and the edges l[0]-l[1], l[2]-l[3], ..
func of(n int, l ...int) api.Graph {
	g := api.Graph{N: n}
	for i := 0; i+1 < len(l); i += 2 {
		g.Edges = append(g.Edges, [2]int{l[i], l[i+1]})
	}
	return g
}

// with is g with the edges l[0]-l[1], l[2]-l[3], .. behind its own.
func with(g api.Graph, l ...int) api.Graph {
	return api.Graph{N: g.N, Edges: slices.Concat(g.Edges, of(g.N, l...).Edges)}
}

// withoutAt is g without one of its edges.
func withoutAt(g api.Graph, at int) api.Graph {
	return api.Graph{N: g.N, Edges: slices.Delete(slices.Clone(g.Edges), at, at+1)}
}

// has looks an edge up by going through the list.
func has(g api.Graph, u, v int) bool {
	return slices.Contains(g.Edges, [2]int{u, v}) || slices.Contains(g.Edges, [2]int{v, u})
}

// sifted has n nodes, and an edge between two of them, the lesser one first, where near says so.
func sifted(n int, near func(u, v int) bool) api.Graph {
	g := api.Graph{N: n}
	for u := range n {
		for v := u + 1; v < n; v++ {
			if near(u, v) {
				g.Edges = append(g.Edges, [2]int{u, v})
			}
		}
	}
	return g
}

// some has n nodes and the first m pairs of them, in form.
func some(n, m int) api.Graph { return api.Graph{N: n, Edges: full(n).Edges[:m]} }

func full(n int) api.Graph { return sifted(n, func(u, v int) bool { return true }) }

// path goes through all nodes, in their order.
func path(n int) api.Graph { return sifted(n, func(u, v int) bool { return v == u+1 }) }

func ring(n int) api.Graph { return with(path(n), n-1, 0) }

func star(n int) api.Graph { return sifted(n, func(u, v int) bool { return u == 0 }) }

// topped is g with one more node, which has an edge with all others.
func topped(g api.Graph) api.Graph {
	out := api.Graph{N: g.N + 1, Edges: slices.Clone(g.Edges)}
	for v := range g.N {
		out = with(out, v, g.N)
	}
	return out
}

// wheel has a ring, and a middle, the last node.
func wheel(n int) api.Graph { return topped(ring(n - 1)) }

// groups has sets of so many nodes each, and all edges but those between two of one set.
func groups(sizes ...int) api.Graph {
	var of []int
	for i, size := range sizes {
		of = append(of, slices.Repeat([]int{i}, size)...)
	}
	return sifted(len(of), func(u, v int) bool { return of[u] != of[v] })
}

func grid(rows, columns int) api.Graph {
	return sifted(rows*columns, func(u, v int) bool { return v == u+columns || v == u+1 && v%columns > 0 })
}

// cube has a node for each number of so many bits, and edges where one bit differs.
func cube(bits int) api.Graph {
	return sifted(1<<bits, func(u, v int) bool { return (u^v)&(u^v-1) == 0 })
}

// steps has n nodes in a ring, and an edge between two that are so many steps apart as one of these numbers says.
func steps(n int, far ...int) api.Graph {
	return sifted(n, func(u, v int) bool { return slices.Contains(far, v-u) || slices.Contains(far, n-v+u) })
}

func petersen() api.Graph {
	g := api.Graph{N: 10}
	for i := range 5 {
		g = with(g, i, (i+1)%5, i, i+5, 5+i, 5+(i+2)%5)
	}
	return g
}

// prism has two rings of n nodes, and an edge between any two in the same place.
func prism(n int) api.Graph {
	g := nextTo(ring(n), ring(n))
	for v := range n {
		g = with(g, v, v+n)
	}
	return g
}

// nextTo has the nodes of a, behind them those of b.
func nextTo(a, b api.Graph) api.Graph {
	g := api.Graph{N: a.N + b.N, Edges: slices.Clone(a.Edges)}
	for _, e := range b.Edges {
		g.Edges = append(g.Edges, [2]int{e[0] + a.N, e[1] + a.N})
	}
	return g
}

// hungAt is a and b, with the first node of b and the last one of a made one.
func hungAt(a, b api.Graph) api.Graph {
	return nextTo(api.Graph{N: a.N - 1, Edges: a.Edges}, b)
}

// scrambled has the edges of g from the last to the first, every other one the other way round.
func scrambled(g api.Graph) api.Graph {
	h := api.Graph{N: g.N}
	for i, e := range slices.Backward(g.Edges) {
		if i%2 == 0 {
			e[0], e[1] = e[1], e[0]
		}
		h.Edges = append(h.Edges, e)
	}
	return h
}

// shuffled is g, scrambled, with other numbers for its nodes, so that they say nothing of places.
func shuffled(g api.Graph, seed int) api.Graph {
	draw := drawFrom(seed)
	names := upTo(g.N)
	for i := range names {
		j := i + draw(g.N-i)
		names[i], names[j] = names[j], names[i]
	}
	h := scrambled(g)
	for i, e := range h.Edges {
		h.Edges[i] = [2]int{names[e[0]], names[e[1]]}
	}
	return h
}

func upTo(n int) []int {
	var l []int
	for v := range n {
		l = append(l, v)
	}
	return l
}

// small has all graphs of n nodes, in form.
func small(n int) []api.Graph {
	var out []api.Graph
	pairs := full(n).Edges
	for set := range 1 << len(pairs) {
		g := api.Graph{N: n}
		for i, e := range pairs {
			if set>>i&1 == 1 {
				g.Edges = append(g.Edges, e)
			}
		}
		out = append(out, g)
	}
	return out
}

// mixed has n nodes, and of the pairs of them so many of a hundred as edges.
func mixed(n, percent, seed int) api.Graph {
	draw := drawFrom(seed)
	return shuffled(sifted(n, func(u, v int) bool { return draw(100) < percent }), seed)
}

// drawn has n nodes and so many edges, none of them chosen by hand.
func drawn(n, edges, seed int) api.Graph {
	g := shuffled(full(n), seed)
	draw := drawFrom(seed + 1)
	for len(g.Edges) > edges {
		at := draw(len(g.Edges))
		g.Edges[at] = g.Edges[len(g.Edges)-1]
		g.Edges = g.Edges[:len(g.Edges)-1]
	}
	return g
}

// grown begins with k nodes and all edges between them; each other node has edges with k that have all edges between them. So it has width k, with as many edges as any graph of width k.
func grown(n, k, seed int) api.Graph {
	draw := drawFrom(seed)
	g := full(k)
	cliques := [][]int{upTo(k)}
	for ; g.N < n; g.N++ {
		on := cliques[draw(len(cliques))]
		for i, u := range on {
			g = with(g, u, g.N)
			other := slices.Clone(on)
			other[i] = g.N
			cliques = append(cliques, other)
		}
	}
	return shuffled(g, seed)
}

// drawFrom answers a function that draws numbers below some n, none of them chosen by hand; the same ones each time.
func drawFrom(seed int) func(n int) int {
	x := uint64(seed)*2654435761 + 12345
	return func(n int) int {
		x = x*6364136223846793005 + 1442695040888963407
		return int(x>>33) % n
	}
}

// answer is what any of the calls answers beside a fault.
type answer struct {
	sets [][]int
	to   []int
	ok   bool
}

func (a answer) isEmpty() bool { return len(a.sets) == 0 && len(a.to) == 0 && !a.ok }

type call struct {
	name string
	ask  func(g, h api.Graph) (answer, api.Fault)
}

func calls() []call {
	return []call{
		{"Minor", func(g, h api.Graph) (answer, api.Fault) {
			sets, ok, f := minor.Minor(g, h)
			return answer{sets: sets, ok: ok}, f
		}},
		{"Within", func(g, h api.Graph) (answer, api.Fault) {
			to, ok, f := minor.Within(g, h)
			return answer{to: to, ok: ok}, f
		}},
	}
}

// tellAll tells what all calls answer.
func tellAll(g, h api.Graph) string {
	out := ""
	for _, c := range calls() {
		a, f := c.ask(g, h)
		out += fmt.Sprintln(c.name, a, f)
	}
	return out
}
