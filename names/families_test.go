package names_test

import (
	"math/big"
	"slices"

	"arbor/api"
)

func full(n int) api.Graph { return sifted(n, func(u, v int) bool { return true }) }

func path(n int) api.Graph { return sifted(n, func(u, v int) bool { return v == u+1 }) }

func ring(n int) api.Graph { return jumps(n, 1) }

func star(n int) api.Graph { return sifted(n, func(u, v int) bool { return u == 0 }) }

// jumps is a ring in which each node has edges with those so far from it.
func jumps(n int, far ...int) api.Graph {
	return sifted(n, func(u, v int) bool { return slices.Contains(far, v-u) || slices.Contains(far, n-v+u) })
}

// sides has an edge from each of a nodes to each of b others.
func sides(a, b int) api.Graph {
	return sifted(a+b, func(u, v int) bool { return u < a && v >= a })
}

// rooks has an edge between two squares of a board, if they are in one row or in one column.
func rooks(rows, columns int) api.Graph {
	return sifted(rows*columns, func(u, v int) bool { return u/columns == v/columns || u%columns == v%columns })
}

// shrikhande has as many edges as rooks on a board of four rows and columns, and looks the same from each two nodes, too.
func shrikhande() api.Graph {
	return sifted(16, func(u, v int) bool {
		step := [2]int{(v/4 - u/4 + 4) % 4, (v%4 - u%4 + 4) % 4}
		return slices.Contains([][2]int{{1, 0}, {3, 0}, {0, 1}, {0, 3}, {1, 1}, {3, 3}}, step)
	})
}

// cube has an edge between two nodes whose numbers differ in one of so many bits.
func cube(bits int) api.Graph {
	return sifted(1<<bits, func(u, v int) bool { d := u ^ v; return d&(d-1) == 0 })
}

// clebsch is a cube of four, with an edge from each node to the one that is farthest.
func clebsch() api.Graph {
	return sifted(16, func(u, v int) bool { d := u ^ v; return d&(d-1) == 0 || d == 15 })
}

// squares has an edge between two nodes, if their difference is a square modulo the prime n.
func squares(n int) api.Graph {
	var far []int
	for i := 1; i < n; i++ {
		far = append(far, i*i%n)
	}
	return jumps(n, far...)
}

func petersen() api.Graph {
	g := of(10)
	for i := range 5 {
		g = with(g, i, (i+1)%5, i, i+5, 5+i, 5+(i+2)%5)
	}
	return g
}

// chorded is a ring with an edge from each node on by a step, the steps again and again, each edge told from one end alone or from both.
func chorded(n int, steps ...int) api.Graph {
	return sifted(n, func(u, v int) bool {
		on := func(u int) int { return (u + steps[u%len(steps)] + n) % n }
		return v == u+1 || v == u+n-1 || on(u) == v || on(v) == u
	})
}

// pairs has all pairs of numbers below n as nodes, and an edge between those that have one together.
func pairs(n int) api.Graph {
	all := full(n).Edges
	return sifted(len(all), func(i, j int) bool {
		d, e := all[i], all[j]
		return d[0] == e[0] || d[0] == e[1] || d[1] == e[0] || d[1] == e[1]
	})
}

// folkman has two nodes for each of five points, one for each two points, and edges where a point is one of the two: all nodes have four edges, but not all go to each other.
func folkman() api.Graph {
	all := full(5).Edges
	return sifted(20, func(u, v int) bool { return u < 10 && v >= 10 && slices.Contains(all[v-10][:], u/2) })
}

// moves has the permutations of four numbers as nodes, and an edge from each to what comes of it by one of the steps.
func moves(steps ...[]int) api.Graph {
	all := permutations(4)
	return sifted(24, func(i, j int) bool {
		return slices.ContainsFunc(steps, func(s []int) bool {
			on := func(p []int) []int { return made(4, func(k int) int { return p[s[k]] }) }
			return slices.Equal(on(all[i]), all[j]) || slices.Equal(on(all[j]), all[i])
		})
	})
}

// polytope has the points with two numbers 1 or -1 and two 0 as nodes, and an edge between those that are nearest.
func polytope() api.Graph {
	var points [][4]int
	for _, e := range full(4).Edges {
		for signs := range 4 {
			var p [4]int
			p[e[0]], p[e[1]] = 1-signs%2*2, 1-signs/2*2
			points = append(points, p)
		}
	}
	return sifted(24, func(i, j int) bool {
		sum := 0
		for k := range 4 {
			sum += points[i][k] * points[j][k]
		}
		return sum == 1
	})
}

// places has the points below n and so many blocks as nodes, and an edge where a point is in a block.
func places(n int, blocks [][]int) api.Graph {
	g := of(n + len(blocks))
	for i, b := range blocks {
		for _, point := range b {
			g = with(g, point, n+i)
		}
	}
	return g
}

// fano has the seven lines of the least plane, with names for its points.
func fano(names []int) [][]int {
	var out [][]int
	for i := range 7 {
		out = append(out, []int{names[i], names[(i+1)%7], names[(i+3)%7]})
	}
	return out
}

// twoPlanes has seven points, and the lines of two planes.
func twoPlanes(names []int) api.Graph { return places(7, append(fano(still(7)), fano(names)...)) }

// planeAndRest has eight points, the lines of a plane with the eighth point, and what the lines of another plane leave out of the seven: each two points are in three blocks together, so that it looks the same from all of them, but need not be.
func planeAndRest(names []int) api.Graph {
	var blocks [][]int
	for _, line := range fano(still(7)) {
		blocks = append(blocks, append(line, 7))
	}
	for _, line := range fano(names) {
		blocks = append(blocks, slices.DeleteFunc(still(7), func(point int) bool { return slices.Contains(line, point) }))
	}
	return places(8, blocks)
}

// biplane has eleven points and eleven blocks: each two points are in two blocks.
func biplane() api.Graph {
	return sifted(22, func(u, v int) bool { return u < 11 && v >= 11 && slices.Contains([]int{1, 3, 4, 5, 9}, (v-u)%11) })
}

// parity has four nodes for each node of a graph with three edges at each: they stand for two of its edges, or none. Two have an edge, if they stand for the same of the one edge between their nodes; at the first edge, if it is twisted, if they don't.
func parity(g api.Graph, twist bool) api.Graph {
	type node struct{ v, set int }
	var nodes []node
	for v := range g.N {
		none := node{v, 0}
		nodes = append(nodes, none)
		var mine []int
		for i, e := range g.Edges {
			if e[0] == v || e[1] == v {
				mine = append(mine, i)
			}
		}
		for skip := range mine {
			nodes = append(nodes, node{v, 1<<mine[(skip+1)%3] | 1<<mine[(skip+2)%3]})
		}
	}
	return sifted(len(nodes), func(i, j int) bool {
		a, b := nodes[i], nodes[j]
		at := slices.Index(g.Edges, [2]int{a.v, b.v})
		return at >= 0 && (a.set>>at&1 != b.set>>at&1) == (twist && at == 0)
	})
}

// family is a graph of which it is known how many permutations keep it.
type family struct {
	name  string
	g     api.Graph
	order *big.Int
}

// families has graphs that are known well.
func families() []family {
	return slices.Concat(plainFamilies(), famousFamilies(), blockFamilies(), manifoldFamilies())
}

func plainFamilies() []family {
	var out []family
	for n := 3; n <= limit; n++ {
		out = append(out, family{"ring", ring(n), number(2, n)}, family{"path", path(n), number(2)},
			family{"star", star(n), factorial(n - 1)}, family{"no edge", of(n), factorial(n)}, family{"all edges", full(n), factorial(n)},
			family{"all edges but one", sifted(n, func(u, v int) bool { return v > 1 }), times(number(2), factorial(n-2))})
	}
	for a := 1; a <= limit/2; a++ {
		out = append(out, family{"two sides", sides(a, a), times(number(2), power(factorial(a), 2))})
		if b := limit - a; b > a {
			out = append(out, family{"two other sides", sides(a, b), times(factorial(a), factorial(b))})
		}
	}
	return append(out, family{"no node", of(0), number()}, family{"a node", of(1), number()}, family{"two nodes", of(2), number(2)}, family{"an edge", of(2, 1, 0), number(2)},
		family{"an edge and a node", of(3, 0, 2), number(2)}, family{"a tree kept by nothing", of(7, 0, 1, 1, 2, 2, 3, 3, 4, 4, 5, 2, 6), number()})
}

func famousFamilies() []family {
	return []family{
		{"Petersen's", petersen(), number(120)}, {"Frucht's", chorded(12, -5, -2, -4, 2, 5, -2, 2, 5, -2, -5, 4, 2), number()}, {"Franklin's", chorded(12, 5, -5), number(48)},
		{"Heawood's", chorded(14, 5, -5), number(336)}, {"Moebius's and Kantor's", chorded(16, 5, -5), number(96)}, {"Pappus's", chorded(18, 5, 7, -7, 7, -7, -5), number(216)},
		{"Desargues's", chorded(20, 5, -5, 9, -9), number(240)}, {"twelve faces", chorded(20, 10, 7, 4, -4, -7, 10, -4, 7, -7, 4), number(120)},
		{"Nauru", chorded(24, 5, -9, 7, -7, 9, -5), number(144)}, {"McGee's", chorded(24, 12, 7, -7), number(32)}, {"Folkman's", folkman(), number(3840)},
		{"cube", cube(3), number(48)}, {"cube of four", cube(4), number(384)}, {"Clebsch's", clebsch(), number(1920)}, {"Shrikhande's", shrikhande(), number(192)},
		{"squares of 5", squares(5), number(10)}, {"squares of 13", squares(13), number(78)}, {"squares of 17", squares(17), number(136)},
		{"rooks of 3", rooks(3, 3), number(72)}, {"rooks of 4", rooks(4, 4), number(1152)}, {"rooks of 4 and 6", rooks(4, 6), number(24, 720)}, {"rooks of 3 and 8", rooks(3, 8), number(6, 40320)},
		{"pairs of 5", pairs(5), number(120)}, {"pairs of 6", pairs(6), number(720)}, {"pairs of 7", pairs(7), number(5040)}, {"24 cells", polytope(), number(1152)},
		{"swaps of neighbours", moves([]int{1, 0, 2, 3}, []int{0, 2, 1, 3}, []int{0, 1, 3, 2}), number(48)},
		{"snub cube", moves([]int{1, 2, 3, 0}, []int{0, 2, 3, 1}, []int{1, 0, 2, 3}), number(24)},
	}
}

// blockFamilies has graphs that look the same from many nodes, or from each other, and are not.
func blockFamilies() []family {
	all, three, one, none := still(7), []int{5, 4, 3, 2, 6, 1, 0}, []int{5, 6, 4, 3, 2, 1, 0}, []int{6, 5, 4, 3, 2, 1, 0} // so many lines the planes have together
	return []family{
		{"a plane twice", twoPlanes(all), number(168, 128)}, {"two planes, three lines", twoPlanes(three), number(48, 8)}, {"two planes, a line", twoPlanes(one), number(24, 2)}, {"two planes", twoPlanes(none), number(42)},
		{"a plane and its rest", planeAndRest(all), number(1344)}, {"a plane and the rest of another", planeAndRest(three), number(48)}, {"a plane and the rest of a third", planeAndRest(one), number(12)}, {"a plane and the rest of a fourth", planeAndRest(none), number(21)},
		{"biplane", biplane(), number(1320)}, {"parity", parity(full(4), false), number(1152)}, {"parity, twisted", parity(full(4), true), number(192)},
	}
}

// manifoldFamilies has copies of graphs beside each other.
func manifoldFamilies() []family {
	var out []family
	for _, f := range []family{
		{"nodes", of(1), number()}, {"edges", path(2), number(2)}, {"paths", path(3), number(2)}, {"triangles", ring(3), number(6)}, {"rings of four", ring(4), number(8)}, {"all four", full(4), number(24)}, {"rings of six", ring(6), number(12)},
		{"two sides of three", sides(3, 3), number(72)}, {"prisms", rooks(2, 3), number(12)}, {"Petersen's graphs", petersen(), number(120)}, {"cubes", cube(3), number(48)}, {"Frucht's graphs", chorded(12, -5, -2, -4, 2, 5, -2, 2, 5, -2, -5, 4, 2), number()},
	} {
		for many := 2; many*f.g.N <= limit; many++ {
			order := times(power(f.order, many), factorial(many))
			out = append(out, family{f.name, copies(f.g, many), order}, family{f.name + ", the other edges", other(copies(f.g, many)), order})
		}
	}
	three := nextTo(sides(3, 3), rooks(2, 3), rooks(2, 3), sides(3, 3))
	rings := nextTo(ring(3), ring(4), ring(5), ring(6), ring(6))
	eight := nextTo(shrikhande(), copies(path(2), 4))
	return append(out, family{"two of two kinds", three, number(72, 72, 2, 12, 12, 2)}, family{"rings", rings, number(6, 8, 10, 12, 12, 2)}, family{"six triangles and a ring of six", nextTo(copies(ring(3), 6), ring(6)), times(power(number(6), 6), factorial(6), number(12))},
		family{"Shrikhande's and edges", eight, number(192, 16, 24)}, family{"Shrikhande's and nodes", nextTo(of(8), shrikhande()), number(192, 40320)}, family{"rooks and a ring", nextTo(ring(8), rooks(4, 4)), number(1152, 16)})
}
