package trees_test

import (
	"cmp"
	"fmt"
	"math/big"
	"math/bits"
	"slices"
	"strings"

	"arbor/api"
)

// A second account of what the chapter says, as near to its words as may be, and no matter how slow.

// partOf has of each node the least one to which a way leads.
func partOf(n int, edges [][2]int) []int {
	part := make([]int, n)
	for v := range part {
		part[v] = v
	}
	for again := true; again; {
		again = false
		for _, e := range edges {
			least := min(part[e[0]], part[e[1]])
			again = again || part[e[0]] != part[e[1]]
			part[e[0]], part[e[1]] = least, least
		}
	}
	return part
}

func componentsOf(n int, edges [][2]int) int {
	count := 0
	for v, part := range partOf(n, edges) {
		if v == part {
			count++
		}
	}
	return count
}

// isTree: one component, and N - 1 edges.
func isTree(g api.Graph) bool {
	return componentsOf(g.N, g.Edges) == 1 && len(g.Edges) == g.N-1
}

// sets goes through all sets of so many edges of g.
func sets(g api.Graph, size int, see func(set []int)) {
	for set := range 1 << len(g.Edges) {
		if bits.OnesCount(uint(set)) != size {
			continue
		}
		var at []int
		for i := range g.Edges {
			if set>>i&1 == 1 {
				at = append(at, i)
			}
		}
		see(at)
	}
}

// pick has the edges at these places of the list.
func pick(g api.Graph, at []int) [][2]int {
	var edges [][2]int
	for _, i := range at {
		edges = append(edges, g.Edges[i])
	}
	return edges
}

// triple is the weight of an edge, and its nodes.
type triple [3]int

func tripleOf(g api.Graph, weights []int, i int) triple {
	e := g.Edges[i]
	return triple{weights[i], min(e[0], e[1]), max(e[0], e[1])}
}

func compareTriples(a, b triple) int { return slices.Compare(a[:], b[:]) }

// leastBySets goes through all forests: sets with as many edges as nodes can be joined by, and as many components as g.
func leastBySets(g api.Graph, weights []int) ([][2]int, int) {
	var best []triple
	sum := 0
	found := false
	components := componentsOf(g.N, g.Edges)
	sets(g, g.N-components, func(set []int) {
		if componentsOf(g.N, pick(g, set)) != components {
			return
		}
		var list []triple
		total := 0
		for _, i := range set {
			list = append(list, tripleOf(g, weights, i))
			total += weights[i]
		}
		slices.SortFunc(list, compareTriples)
		if !found || cmp.Or(cmp.Compare(total, sum), slices.CompareFunc(list, best, compareTriples)) < 0 {
			found, best, sum = true, list, total
		}
	})
	return inForm(best), sum
}

// leastByLesser takes an edge if the lesser ones do not join its nodes.
func leastByLesser(g api.Graph, weights []int) ([][2]int, int) {
	var list []triple
	sum := 0
	for i, e := range g.Edges {
		var lesser [][2]int
		for j := range g.Edges {
			if compareTriples(tripleOf(g, weights, j), tripleOf(g, weights, i)) < 0 {
				lesser = append(lesser, g.Edges[j])
			}
		}
		if part := partOf(g.N, lesser); part[e[0]] != part[e[1]] {
			list = append(list, tripleOf(g, weights, i))
			sum += weights[i]
		}
	}
	return inForm(list), sum
}

// inForm has the nodes of edges alone, rising.
func inForm(list []triple) [][2]int {
	edges := [][2]int{}
	for _, e := range list {
		edges = append(edges, [2]int{e[1], e[2]})
	}
	slices.SortFunc(edges, func(a, b [2]int) int { return slices.Compare(a[:], b[:]) })
	return edges
}

// countBySets goes through all sets of N - 1 edges.
func countBySets(g api.Graph) int {
	count := 0
	sets(g, g.N-1, func(set []int) {
		if isTree(api.Graph{N: g.N, Edges: pick(g, set)}) {
			count++
		}
	})
	return count
}

// countModulo is how many trees g has, modulo a prime: the determinant without the first node, by steps that may divide.
func countModulo(g api.Graph, prime int) int {
	n := g.N - 1
	rows := make([][]int, n)
	for v := range rows {
		rows[v] = make([]int, n)
	}
	for _, e := range g.Edges {
		for _, u := range e {
			for _, v := range e {
				if u == 0 || v == 0 {
					continue
				}
				by := 1
				if u != v {
					by = prime - 1
				}
				rows[u-1][v-1] = (rows[u-1][v-1] + by) % prime
			}
		}
	}
	product := 1
	for k := range rows {
		at := slices.IndexFunc(rows[k:], func(row []int) bool { return row[k] != 0 })
		if at < 0 {
			return 0
		}
		if at > 0 {
			rows[k], rows[k+at] = rows[k+at], rows[k]
			product = prime - product
		}
		product = product * rows[k][k] % prime
		inverse := int(new(big.Int).ModInverse(big.NewInt(int64(rows[k][k])), big.NewInt(int64(prime))).Int64())
		for _, row := range rows[k+1:] {
			times := row[k] * inverse % prime
			for j := k; j < n; j++ {
				row[j] = (row[j] + (prime-times)*rows[k][j]) % prime
			}
		}
	}
	return product
}

// codeByHand takes edges out of the list.
func codeByHand(g api.Graph) []int {
	edges := slices.Clone(g.Edges)
	code := []int{}
	for range g.N - 2 {
		for v := range g.N {
			var at []int
			for i, e := range edges {
				if e[0] == v || e[1] == v {
					at = append(at, i)
				}
			}
			if len(at) == 1 {
				e := edges[at[0]]
				code = append(code, e[0]+e[1]-v)
				edges = slices.Delete(edges, at[0], at[0]+1)
				break
			}
		}
	}
	return code
}

// textFrom cuts a node off, and puts together the texts of what falls apart.
func textFrom(g api.Graph, v int) string {
	var rest [][2]int
	var hang []int
	for _, e := range g.Edges {
		switch v {
		case e[0]:
			hang = append(hang, e[1])
		case e[1]:
			hang = append(hang, e[0])
		default:
			rest = append(rest, e)
		}
	}
	var texts []string
	for _, u := range hang {
		texts = append(texts, textFrom(api.Graph{N: g.N, Edges: rest}, u))
	}
	slices.Sort(texts)
	return fmt.Sprint("(", strings.Join(texts, ""), ")")
}

// canonByHand has the least of the texts from all nodes on.
func canonByHand(g api.Graph) string {
	var texts []string
	for v := range g.N {
		texts = append(texts, textFrom(g, v))
	}
	return slices.Min(texts)
}

// orders has all orders of the numbers 0 to n - 1.
func orders(n int) [][]int {
	if n == 0 {
		return [][]int{nil}
	}
	var out [][]int
	for _, l := range orders(n - 1) {
		for at := range n {
			out = append(out, slices.Insert(slices.Clone(l), at, n-1))
		}
	}
	return out
}

// named has node v of g as node names[v], in form.
func named(g api.Graph, names []int) api.Graph {
	var list []triple
	for _, e := range g.Edges {
		u, v := names[e[0]], names[e[1]]
		list = append(list, triple{0, min(u, v), max(u, v)})
	}
	return api.Graph{N: g.N, Edges: inForm(list)}
}
