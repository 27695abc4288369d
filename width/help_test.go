package width_test

import (
	"fmt"
	"slices"

	"arbor/api"
	"arbor/width"
)

func fault(code, at int) api.Fault { return api.Fault{Code: code, At: at} }

// of makes a graph of n nodes and the edges l[0]-l[1], l[2]-l[3], ..
func of(n int, l ...int) api.Graph {
	g := api.Graph{N: n}
	for i := 0; i+1 < len(l); i += 2 {
		g.Edges = append(g.Edges, [2]int{l[i], l[i+1]})
	}
	return g
}

// with is g with the edges l[0]-l[1], l[2]-l[3], .. behind its own.
func with(g api.Graph, l ...int) api.Graph {
	return api.Graph{N: g.N, Edges: slices.Concat(g.Edges, of(g.N, l...).Edges)}
}

// has looks an edge up by going through the list.
func has(g api.Graph, u, v int) bool {
	return slices.Contains(g.Edges, [2]int{u, v}) || slices.Contains(g.Edges, [2]int{v, u})
}

// sifted has n nodes, and an edge between two of them, the lesser one first, where near says so.
func sifted(n int, near func(u, v int) bool) api.Graph {
	g := api.Graph{N: n}
	for u := range n {
		for v := u + 1; v < n; v++ {
			if near(u, v) {
				g.Edges = append(g.Edges, [2]int{u, v})
			}
		}
	}
	return g
}

// some has n nodes and the first m pairs of them, in form.
func some(n, m int) api.Graph {
	g := full(n)
	return api.Graph{N: n, Edges: g.Edges[:m]}
}

func full(n int) api.Graph { return sifted(n, func(u, v int) bool { return true }) }

// path goes through all nodes, in their order.
func path(n int) api.Graph { return sifted(n, func(u, v int) bool { return v == u+1 }) }

func ring(n int) api.Graph { return with(path(n), n-1, 0) }

func star(n int) api.Graph { return sifted(n, func(u, v int) bool { return u == 0 }) }

// other has an edge just where g has none.
func other(g api.Graph) api.Graph {
	near := table(g)
	return sifted(g.N, func(u, v int) bool { return !near[u][v] })
}

// groups has sets of so many nodes each, and all edges but those between two of one set.
func groups(sizes ...int) api.Graph {
	var of []int
	for i, size := range sizes {
		of = append(of, slices.Repeat([]int{i}, size)...)
	}
	return sifted(len(of), func(u, v int) bool { return of[u] != of[v] })
}

func grid(rows, columns int) api.Graph {
	return sifted(rows*columns, func(u, v int) bool { return v == u+columns || v == u+1 && v%columns > 0 })
}

// cube has a node for each number of so many bits, and edges where one bit differs.
func cube(bits int) api.Graph {
	return sifted(1<<bits, func(u, v int) bool { return (u^v)&(u^v-1) == 0 })
}

// steps has n nodes in a ring, and an edge between two that are so many steps apart as one of these numbers says.
func steps(n int, far ...int) api.Graph {
	return sifted(n, func(u, v int) bool { return slices.Contains(far, v-u) || slices.Contains(far, n-v+u) })
}

func petersen() api.Graph {
	g := api.Graph{N: 10}
	for i := range 5 {
		g.Edges = append(g.Edges, [2]int{i, (i + 1) % 5}, [2]int{i, i + 5}, [2]int{5 + i, 5 + (i+2)%5})
	}
	return g
}

// prism has two rings of n nodes, and an edge between any two in the same place.
func prism(n int) api.Graph {
	g := nextTo(ring(n), ring(n))
	for v := range n {
		g = with(g, v, v+n)
	}
	return g
}

// icosahedron has two poles, and two rings of five between them, one turned half a step against the other.
func icosahedron() api.Graph {
	g := nextTo(wheel(6), wheel(6))
	for i := range 5 {
		g = with(g, 1+i, 7+i, 1+i, 7+(i+1)%5)
	}
	return g
}

// wheel has a middle, 0, and a ring round it.
func wheel(n int) api.Graph { return joined(of(1), ring(n-1)) }

// nextTo has the nodes of a, behind them those of b.
func nextTo(a, b api.Graph) api.Graph {
	g := api.Graph{N: a.N + b.N, Edges: slices.Clone(a.Edges)}
	for _, e := range b.Edges {
		g.Edges = append(g.Edges, [2]int{e[0] + a.N, e[1] + a.N})
	}
	return g
}

// joined is a next to b, with all edges from one to the other.
func joined(a, b api.Graph) api.Graph {
	g := nextTo(a, b)
	for u := range a.N {
		for v := range b.N {
			g = with(g, u, a.N+v)
		}
	}
	return g
}

// shuffled is g with other numbers for its nodes, so that they say nothing of places.
func shuffled(g api.Graph, seed int) api.Graph {
	names := deck(g.N, drawFrom(seed))
	h := api.Graph{N: g.N}
	for _, e := range g.Edges {
		h.Edges = append(h.Edges, [2]int{names[e[0]], names[e[1]]})
	}
	return h
}

// scrambled has the edges of g from the last to the first, every other one the other way round.
func scrambled(g api.Graph) api.Graph {
	h := api.Graph{N: g.N}
	for i, e := range slices.Backward(g.Edges) {
		if i%2 == 0 {
			e[0], e[1] = e[1], e[0]
		}
		h.Edges = append(h.Edges, e)
	}
	return h
}

// small has all graphs of n nodes, in form.
func small(n int) []api.Graph {
	var out []api.Graph
	all := full(n).Edges
	for set := range 1 << len(all) {
		g := api.Graph{N: n}
		for i, e := range all {
			if set>>i&1 == 1 {
				g.Edges = append(g.Edges, e)
			}
		}
		out = append(out, g)
	}
	return out
}

// drawFrom answers a function that draws numbers below some n, none of them chosen by hand; the same ones each time.
func drawFrom(seed int) func(n int) int {
	x := uint64(seed)*2654435761 + 12345
	return func(n int) int {
		x = x*6364136223846793005 + 1442695040888963407
		return int(x>>33) % n
	}
}

// deck has the numbers below n, in an order that draw chooses.
func deck(n int, draw func(n int) int) []int {
	var l []int
	for v := range n {
		l = slices.Insert(l, draw(v+1), v)
	}
	return l
}

func upTo(n int) []int {
	var l []int
	for v := range n {
		l = append(l, v)
	}
	return l
}

// mixed has n nodes and those of tries pairs of them that a graph may have.
func mixed(n, tries, seed int) api.Graph {
	draw := drawFrom(seed)
	g := api.Graph{N: n}
	for range tries {
		u, v := draw(n), draw(n)
		if u != v && !has(g, u, v) && len(g.Edges) < api.MaxEdges {
			g.Edges = append(g.Edges, [2]int{u, v})
		}
	}
	return g
}

// weighing has n weights from -most to most.
func weighing(n, most, seed int) []int {
	draw := drawFrom(seed)
	var l []int
	for range n {
		l = append(l, draw(2*most+1)-most)
	}
	return l
}

// tree is bags, and what is above them.
type tree struct {
	bags [][]int
	up   []int
}

func copied(t tree) tree {
	bags := slices.Clone(t.bags)
	for i, bag := range bags {
		bags[i] = slices.Clone(bag)
	}
	return tree{bags, slices.Clone(t.up)}
}

// inARow has bags one below the other.
func inARow(bags ...[]int) tree {
	t := tree{bags: bags}
	for i := range bags {
		t.up = append(t.up, i-1)
	}
	return t
}

// window has a bag for each run of so many of n nodes, one below the other: over these lies what has no edges between nodes that are further from each other.
func window(n, size int) tree {
	var bags [][]int
	for v := 0; v+size <= n; v++ {
		bags = append(bags, upTo(n)[v:v+size])
	}
	return inARow(bags...)
}

// grown has many bags of at most size nodes that have n nodes together: each bag hangs at some other one, has some of its nodes, and, as long as there are any, new ones.
func grown(n, size, many, seed int) tree {
	draw := drawFrom(seed)
	var t tree
	met := 0
	for at := range many {
		var bag []int
		above := -1
		if at > 0 {
			above = draw(at)
			bag = slices.Clone(t.bags[above])
		}
		// so many new ones that those that are left do for the bags that are left
		fresh := min(size, (n-met+many-at-1)/(many-at))
		for len(bag)+fresh > size || len(bag) > 0 && draw(size) == 0 {
			i := draw(len(bag))
			bag = slices.Delete(bag, i, i+1)
		}
		for range fresh {
			bag = append(bag, met)
			met++
		}
		t.bags, t.up = append(t.bags, bag), append(t.up, above)
	}
	return t
}

// over is a graph that lies over a tree of bags that have n nodes: of the pairs that are in a bag so many of a hundred have an edge, as far as a graph may have so many.
func over(t tree, n, percent, seed int) api.Graph {
	draw := drawFrom(seed)
	near := table(of(n))
	g := of(n)
	for _, bag := range t.bags {
		for i, v := range bag {
			for _, u := range bag[:i] {
				if !near[u][v] && draw(100) < percent && len(g.Edges) < api.MaxEdges {
					near[u][v], near[v][u] = true, true
					g.Edges = append(g.Edges, [2]int{u, v})
				}
			}
		}
	}
	return g
}

// turned is a tree with another root, other numbers for its bags, and other orders in them.
func turned(t tree, seed int) tree {
	if len(t.bags) == 0 {
		return t
	}
	draw := drawFrom(seed)
	up := rooted(t.up, draw(len(t.up)))
	places := deck(len(t.bags), draw)
	out := tree{make([][]int, len(t.bags)), make([]int, len(t.bags))}
	for at, place := range places {
		for _, i := range deck(len(t.bags[at]), draw) {
			out.bags[place] = append(out.bags[place], t.bags[at][i])
		}
		out.up[place] = -1
		if up[at] >= 0 {
			out.up[place] = places[up[at]]
		}
	}
	return out
}

// rooted turns round what is above on the way from a bag to the root.
func rooted(up []int, root int) []int {
	out := slices.Clone(up)
	below := -1
	for at := root; at >= 0; at = up[at] {
		out[at] = below
		below = at
	}
	return out
}

// leastOf is the tree that Least answers.
func leastOf(g api.Graph) tree {
	_, bags, up, _ := width.Least(g)
	return tree{bags, up}
}

// question is what any of the calls can be asked.
type question struct {
	g       api.Graph
	weights []int
	tree
}

// answer is what any of the calls answers beside a fault.
type answer struct {
	number int
	is     bool
	nodes  []int
	tree
}

func (a answer) isEmpty() bool {
	return a.number == 0 && !a.is && len(a.nodes)+len(a.bags)+len(a.up) == 0
}

type call struct {
	name  string
	ask   func(q question) (answer, api.Fault)
	fault func(q question) api.Fault
}

func calls() []call {
	return []call{
		{"Least", func(q question) (a answer, f api.Fault) {
			a.number, a.bags, a.up, f = width.Least(q.g)
			return a, f
		}, func(q question) api.Fault { return faultOfLeast(q.g) }},
		{"Fits", func(q question) (a answer, f api.Fault) {
			a.is, f = width.Fits(q.g, q.bags, q.up)
			return a, f
		}, func(q question) api.Fault { return faultOfFits(q.g, q.bags, q.up) }},
		{"Heaviest", func(q question) (a answer, f api.Fault) {
			a.number, a.nodes, f = width.Heaviest(q.g, q.weights, q.bags, q.up)
			return a, f
		}, func(q question) api.Fault { return faultOfHeaviest(q.g, q.weights, q.bags, q.up) }},
	}
}

// tellAll tells what all calls answer.
func tellAll(q question) string {
	out := ""
	for _, c := range calls() {
		out += fmt.Sprint(c.ask(q))
	}
	return out
}
