package names_test

import (
	"fmt"
	"math/big"
	"slices"
	"testing"

	"arbor/api"
	"arbor/group"
	"arbor/names"
)

// limit is how many nodes a graph may have here.
const limit = 2 * api.MaxSmall

func fault(code, at int) api.Fault { return api.Fault{Code: code, At: at} }

// of makes a graph of n nodes and the edges l[0]-l[1], l[2]-l[3], ..
func of(n int, l ...int) api.Graph {
	g := api.Graph{N: n}
	for i := 0; i+1 < len(l); i += 2 {
		g.Edges = append(g.Edges, [2]int{l[i], l[i+1]})
	}
	return g
}

// with is g with the edges l[0]-l[1], l[2]-l[3], .. behind its own.
func with(g api.Graph, l ...int) api.Graph {
	return api.Graph{N: g.N, Edges: slices.Concat(g.Edges, of(g.N, l...).Edges)}
}

// sifted has n nodes, and an edge between two of them, the lesser one first, where near says so.
func sifted(n int, near func(u, v int) bool) api.Graph {
	g := api.Graph{N: n}
	for u := range n {
		for v := u + 1; v < n; v++ {
			if near(u, v) {
				g.Edges = append(g.Edges, [2]int{u, v})
			}
		}
	}
	return g
}

// table tells of each two nodes whether they have an edge.
func table(g api.Graph) [][]bool {
	near := make([][]bool, g.N)
	for v := range near {
		near[v] = make([]bool, g.N)
	}
	for _, e := range g.Edges {
		near[e[0]][e[1]], near[e[1]][e[0]] = true, true
	}
	return near
}

// other has an edge just where g has none.
func other(g api.Graph) api.Graph {
	near := table(g)
	return sifted(g.N, func(u, v int) bool { return !near[u][v] })
}

// nextTo has the nodes of each graph behind those of the ones ahead.
func nextTo(all ...api.Graph) api.Graph {
	g := api.Graph{}
	for _, h := range all {
		for _, e := range h.Edges {
			g.Edges = append(g.Edges, [2]int{e[0] + g.N, e[1] + g.N})
		}
		g.N += h.N
	}
	return g
}

func copies(g api.Graph, many int) api.Graph { return nextTo(slices.Repeat([]api.Graph{g}, many)...) }

func made(n int, to func(i int) int) []int {
	p := make([]int, n)
	for i := range p {
		p[i] = to(i)
	}
	return p
}

func still(n int) []int { return made(n, func(i int) int { return i }) }

// drawFrom answers a function that draws numbers below some n, none of them chosen by hand; the same ones each time.
func drawFrom(seed int) func(n int) int {
	x := uint64(seed)*2654435761 + 12345
	return func(n int) int {
		x = x*6364136223846793005 + 1442695040888963407
		return int(x>>33) % n
	}
}

// deck has the numbers below n, in an order that next chooses.
func deck(n int, next func(n int) int) []int {
	l := still(n)
	for i := n - 1; i > 0; i-- {
		j := next(i + 1)
		l[i], l[j] = l[j], l[i]
	}
	return l
}

// shuffled has other numbers for the nodes, another order of the edges, and some of these the other way round.
func shuffled(g api.Graph, seed int) api.Graph {
	next := drawFrom(seed)
	p := deck(g.N, next)
	h := api.Graph{N: g.N}
	for _, i := range deck(len(g.Edges), next) {
		e := g.Edges[i]
		if next(2) == 0 {
			e[0], e[1] = e[1], e[0]
		}
		h.Edges = append(h.Edges, [2]int{p[e[0]], p[e[1]]})
	}
	return h
}

// small has all graphs of n nodes.
func small(n int) []api.Graph {
	var out []api.Graph
	all := full(n).Edges
	for chosen := range 1 << len(all) {
		g := api.Graph{N: n}
		for i, e := range all {
			if chosen>>i&1 == 1 {
				g.Edges = append(g.Edges, e)
			}
		}
		out = append(out, g)
	}
	return out
}

// mixed has n nodes, and each edge if one of a hundred numbers is below many.
func mixed(n, many, seed int) api.Graph {
	next := drawFrom(seed)
	return sifted(n, func(u, v int) bool { return next(100) < many })
}

// switched is g with some pairs of edges a-b and c-d changed to a-d and c-b, so that each node keeps its number of edges.
func switched(g api.Graph, times, seed int) api.Graph {
	next, near := drawFrom(seed), table(g)
	h := api.Graph{N: g.N, Edges: slices.Clone(g.Edges)}
	set := func(u, v int, now bool) { near[u][v], near[v][u] = now, now }
	for range times {
		i, j, way := next(len(h.Edges)), next(len(h.Edges)), next(2)
		a, b, c, d := h.Edges[i][0], h.Edges[i][1], h.Edges[j][way], h.Edges[j][1-way]
		if a == d || b == c || near[a][d] || near[b][c] {
			continue
		}
		set(a, b, false)
		set(c, d, false)
		set(a, d, true)
		set(b, c, true)
		h.Edges[i], h.Edges[j] = [2]int{a, d}, [2]int{c, b}
	}
	return h
}

// isPermutation: each number below n, once.
func isPermutation(n int, p []int) bool {
	l := slices.Clone(p)
	slices.Sort(l)
	return slices.Equal(l, still(n))
}

// takes: each edge of a goes to an edge of b, and none is left over there.
func takes(p []int, a, b api.Graph) bool {
	if a.N != b.N || len(a.Edges) != len(b.Edges) || !isPermutation(a.N, p) {
		return false
	}
	near := table(b)
	for _, e := range a.Edges {
		if !near[p[e[0]]][p[e[1]]] {
			return false
		}
	}
	return true
}

func isInForm(g api.Graph) bool {
	for i, e := range g.Edges {
		if e[0] < 0 || e[0] >= e[1] || e[1] >= g.N || i > 0 && slices.Compare(g.Edges[i-1][:], e[:]) >= 0 {
			return false
		}
	}
	return true
}

// mustCanon answers the Canon of g, if it is in form, and g is taken to it.
func mustCanon(t *testing.T, what string, g api.Graph) api.Graph {
	t.Helper()
	canon, to, f := names.Canon(g)
	if f != (api.Fault{}) || !isInForm(canon) || !takes(to, g, canon) {
		t.Errorf("Canon of %s, %v: %v %v %v", what, g, canon, to, f)
	}
	return canon
}

func equal(a, b api.Graph) bool { return a.N == b.N && slices.Equal(a.Edges, b.Edges) }

// wantSame asks both ways, and holds the Canons against each other.
func wantSame(t *testing.T, what string, a, b api.Graph, want bool) {
	t.Helper()
	for _, pair := range [][2]api.Graph{{a, b}, {b, a}} {
		to, ok, f := names.Same(pair[0], pair[1])
		if ok != want || f != (api.Fault{}) || ok && !takes(to, pair[0], pair[1]) || !ok && len(to) > 0 {
			t.Errorf("Same of %s, %v and %v: %v %v %v, want %v", what, pair[0], pair[1], to, ok, f, want)
		}
	}
	if canonA, canonB := mustCanon(t, what, a), mustCanon(t, what, b); equal(canonA, canonB) != want {
		t.Errorf("Canon of %s: %v and %v, want the same: %v", what, canonA, canonB, want)
	}
}

// mustTurns answers the order, if it is that of the group of what is told beside it, and all these keep g.
func mustTurns(t *testing.T, what string, g api.Graph) string {
	t.Helper()
	gens, order, f := names.Turns(g)
	if f != (api.Fault{}) || len(gens) > api.MaxNodes {
		t.Errorf("Turns of %s, %v: %d gens, fault %v", what, g, len(gens), f)
	}
	for _, p := range gens {
		if !takes(p, g, g) {
			t.Errorf("Turns of %s, %v: %v does not keep it", what, g, p)
		}
	}
	if many, f := group.Order(g.N, gens); many != order || f != (api.Fault{}) {
		t.Errorf("Turns of %s, %v: %s, the group of %v has %s (%v)", what, g, order, gens, many, f)
	}
	return order
}

func wantTurns(t *testing.T, what string, g api.Graph, want *big.Int) {
	t.Helper()
	if got := mustTurns(t, what, g); got != want.String() {
		t.Errorf("Turns of %s, %v: %s, want %v", what, g, got, want)
	}
}

func number(of ...int) *big.Int {
	out := big.NewInt(1)
	for _, x := range of {
		out.Mul(out, big.NewInt(int64(x)))
	}
	return out
}

func factorial(n int) *big.Int { return new(big.Int).MulRange(1, int64(n)) }

func power(x *big.Int, many int) *big.Int { return new(big.Int).Exp(x, big.NewInt(int64(many)), nil) }

func times(all ...*big.Int) *big.Int {
	out := big.NewInt(1)
	for _, x := range all {
		out.Mul(out, x)
	}
	return out
}

// answer is what any of the calls answers beside a fault.
type answer struct {
	canon api.Graph
	to    []int
	ok    bool
	gens  [][]int
	order string
}

func (a answer) isEmpty() bool {
	return a.canon.N == 0 && len(a.canon.Edges) == 0 && len(a.to) == 0 && !a.ok && len(a.gens) == 0 && a.order == ""
}

// call asks of one graph; Same is asked in three ways.
type call struct {
	name string
	ask  func(g api.Graph) (answer, api.Fault)
}

func askSame(name string, order func(g api.Graph) (a, b api.Graph)) call {
	return call{name, func(g api.Graph) (a answer, f api.Fault) {
		a.to, a.ok, f = names.Same(order(g))
		return
	}}
}

func calls() []call {
	return []call{
		{"Canon", func(g api.Graph) (a answer, f api.Fault) { a.canon, a.to, f = names.Canon(g); return }},
		{"Turns", func(g api.Graph) (a answer, f api.Fault) { a.gens, a.order, f = names.Turns(g); return }},
		askSame("Same, twice this", func(g api.Graph) (a, b api.Graph) { return g, g }),
		askSame("Same, this first", func(g api.Graph) (a, b api.Graph) { return g, petersen() }),
		askSame("Same, this last", func(g api.Graph) (a, b api.Graph) { return petersen(), g }),
	}
}

// tellAll tells what all calls answer.
func tellAll(g api.Graph) string {
	out := ""
	for _, c := range calls() {
		out += fmt.Sprint(c.ask(g))
	}
	return out
}
