package graph_test

import (
	"fmt"
	"math"
	"slices"
	"testing"

	"arbor/api"
	"arbor/graph"
)

type faulty struct {
	name string
	g    api.Graph
	f    api.Fault
}

// faultyGraphs has each fault of a graph, at each edge that the document names, and what comes first where there are several.
func faultyGraphs() []faulty {
	loops := api.Graph{N: 2, Edges: make([][2]int, api.MaxEdges+1)}
	return []faulty{
		{"N below 0", of(-1), fault(api.ErrMany, 0)},
		{"N the least", of(math.MinInt), fault(api.ErrMany, 0)},
		{"a node too many", of(api.MaxNodes + 1), fault(api.ErrMany, 0)},
		{"N the greatest", of(math.MaxInt), fault(api.ErrMany, 0)},
		{"an edge too many", some(api.MaxNodes, api.MaxEdges+1), fault(api.ErrMany, 0)},
		{"too many edges ahead of loops", loops, fault(api.ErrMany, 0)},
		{"N ahead of an edge", of(-1, 0, 0), fault(api.ErrMany, 0)},
		{"N too great ahead of an edge", of(api.MaxNodes+1, 0, 1, 5, 5), fault(api.ErrMany, 0)},
		{"second node N", of(2, 0, 1, 0, 2), fault(api.ErrRange, 1)},
		{"first node N", of(2, 0, 1, 2, 0), fault(api.ErrRange, 1)},
		{"first node below 0", of(2, -1, 0), fault(api.ErrRange, 0)},
		{"second node below 0", of(2, 0, -1), fault(api.ErrRange, 0)},
		{"the least and the greatest", of(2, math.MinInt, math.MaxInt), fault(api.ErrRange, 0)},
		{"an edge without nodes", of(0, 0, 1), fault(api.ErrRange, 0)},
		{"node MaxNodes", of(api.MaxNodes, 0, api.MaxNodes), fault(api.ErrRange, 0)},
		{"a loop", of(2, 0, 1, 1, 1), fault(api.ErrLoop, 1)},
		{"a loop at 0", of(1, 0, 0), fault(api.ErrLoop, 0)},
		{"twice", of(3, 0, 1, 1, 2, 0, 1), fault(api.ErrTwice, 2)},
		{"twice, the other way round", of(3, 0, 1, 1, 2, 1, 0), fault(api.ErrTwice, 2)},
		{"twice, both the other way round", of(3, 1, 0, 1, 2, 1, 0), fault(api.ErrTwice, 2)},
		{"twice, then the other way round first", of(3, 2, 1, 0, 1, 1, 2), fault(api.ErrTwice, 2)},
		{"range ahead of loop in one edge", of(2, 2, 2), fault(api.ErrRange, 0)},
		{"range ahead of twice in one edge", of(2, 0, 2, 0, 2), fault(api.ErrRange, 0)},
		{"loop ahead of twice in one edge", of(2, 1, 1, 1, 1), fault(api.ErrLoop, 0)},
		{"an earlier loop ahead of range", of(3, 0, 1, 1, 1, 0, 9), fault(api.ErrLoop, 1)},
		{"an earlier twice ahead of range and loop", of(3, 0, 1, 1, 0, 9, 0, 2, 2), fault(api.ErrTwice, 1)},
		{"an earlier range ahead of all", of(3, 0, 1, 3, 0, 1, 0, 2, 2), fault(api.ErrRange, 1)},
		{"the last edge of MaxEdges", withLast(some(api.MaxNodes, api.MaxEdges), [2]int{1, 0}), fault(api.ErrTwice, api.MaxEdges-1)},
	}
}

// withLast is g with another last edge.
func withLast(g api.Graph, e [2]int) api.Graph {
	g.Edges[len(g.Edges)-1] = e
	return g
}

func TestCheckFindsNothing(t *testing.T) {
	for _, g := range []api.Graph{
		{}, {Edges: [][2]int{}}, of(1), of(api.MaxNodes),
		of(2, 0, 1), of(2, 1, 0), of(3, 2, 1, 1, 0), of(api.MaxNodes, api.MaxNodes-1, 0),
		some(api.MaxNodes, api.MaxEdges), scrambled(some(api.MaxNodes, api.MaxEdges)),
	} {
		if f := graph.Check(g); f != (api.Fault{}) {
			t.Errorf("Check of N %d with %d edges: %v, want none", g.N, len(g.Edges), f)
		}
	}
}

func TestCheckFindsFaults(t *testing.T) {
	for _, x := range faultyGraphs() {
		if f := graph.Check(x.g); f != x.f {
			t.Errorf("Check, %s: %v, want %v", x.name, f, x.f)
		}
	}
}

func TestAllTellFirstWhatCheckSays(t *testing.T) {
	for _, x := range faultyGraphs() {
		for _, c := range ones() {
			g, f := c.call(x.g)
			wantFault(t, c.name+", "+x.name, g, f, x.f)
		}
		for _, v := range []int{-1, 0, 1} {
			l, f := graph.Near(x.g, v)
			if f != x.f || len(l) != 0 {
				t.Errorf("Near %d, %s: %v %v, want %v", v, x.name, l, f, x.f)
			}
		}
		for _, c := range twos() {
			g, f := c.call(x.g, ring(4))
			wantFault(t, c.name+", a: "+x.name, g, f, x.f)
			g, f = c.call(ring(4), x.g)
			wantFault(t, c.name+", b: "+x.name, g, f, x.f)
			// what comes out would be too great as well: the fault of an argument is told ahead of it
			g, f = c.call(full(45), x.g)
			wantFault(t, c.name+", b, with a great a: "+x.name, g, f, x.f)
		}
	}
}

func TestOfTwoTheFirstIsToldFirst(t *testing.T) {
	for _, x := range faultyGraphs() {
		for _, y := range faultyGraphs() {
			for _, c := range twos() {
				g, f := c.call(x.g, y.g)
				wantFault(t, c.name+", "+x.name+", "+y.name, g, f, x.f)
			}
		}
	}
}

func TestForm(t *testing.T) {
	g, f := graph.Form(of(3, 2, 1, 1, 0))
	wantGraph(t, "a path", g, f, of(3, 0, 1, 1, 2))
	g, f = graph.Form(of(12, 11, 2, 10, 2, 9, 1, 1, 11, 0, 3))
	wantGraph(t, "numbers, not texts, rise", g, f, of(12, 0, 3, 1, 9, 1, 11, 2, 10, 2, 11))
	g, f = graph.Form(of(api.MaxNodes))
	wantGraph(t, "nodes alone", g, f, of(api.MaxNodes))
	most := some(api.MaxNodes, api.MaxEdges)
	g, f = graph.Form(scrambled(most))
	wantGraph(t, "the greatest", g, f, most)
	for _, h := range small(4) {
		g, f = graph.Form(h)
		wantGraph(t, "in form already", g, f, h)
		g, f = graph.Form(scrambled(h))
		wantGraph(t, fmt.Sprint("scrambled ", h), g, f, h)
	}
}

func TestNear(t *testing.T) {
	for _, h := range append(small(4), some(api.MaxNodes, api.MaxEdges), ring(api.MaxNodes)) {
		for v := range h.N {
			var want []int
			for u := range h.N {
				if has(h, u, v) {
					want = append(want, u)
				}
			}
			if l, f := graph.Near(scrambled(h), v); f != (api.Fault{}) || !slices.Equal(l, want) {
				t.Errorf("Near %d of %v: %v %v, want %v", v, h, l, f, want)
			}
		}
	}
}

func TestNearOfNoNode(t *testing.T) {
	for _, g := range []api.Graph{{}, of(1), ring(5), of(api.MaxNodes)} {
		for _, v := range []int{math.MinInt, -1, g.N, g.N + 1, math.MaxInt} {
			if l, f := graph.Near(g, v); f != fault(api.ErrRange, 0) || len(l) != 0 {
				t.Errorf("Near %d of N %d: %v %v, want ErrRange at 0", v, g.N, l, f)
			}
		}
	}
}

func TestComplement(t *testing.T) {
	g, f := graph.Complement(of(3, 0, 1, 1, 2))
	wantGraph(t, "a path", g, f, of(3, 0, 2))
	for _, h := range small(4) {
		want := sift(h.N, func(u, v int) bool { return !has(h, u, v) })
		g, f = graph.Complement(scrambled(h))
		wantGraph(t, fmt.Sprint(h), g, f, want)
	}
}

func TestComplementLimits(t *testing.T) {
	// 46 nodes have 1035 pairs
	h := some(46, 35)
	g, f := graph.Complement(h)
	wantGraph(t, "MaxEdges", g, f, sift(46, func(u, v int) bool { return !has(h, u, v) }))
	if len(g.Edges) != api.MaxEdges {
		t.Errorf("%d edges, want %d", len(g.Edges), api.MaxEdges)
	}
	g, f = graph.Complement(some(46, 34))
	wantFault(t, "one more", g, f, fault(api.ErrMany, 0))
	g, f = graph.Complement(of(api.MaxNodes))
	wantFault(t, "of MaxNodes alone", g, f, fault(api.ErrMany, 0))
}

func TestLine(t *testing.T) {
	g, f := graph.Line(full(3))
	wantGraph(t, "a triangle", g, f, full(3))
	// in form: 0-3, 1-2, 2-3; in the order of the list it would be 0-1, 0-2
	g, f = graph.Line(of(4, 3, 2, 2, 1, 3, 0))
	wantGraph(t, "the order in form", g, f, of(3, 0, 2, 1, 2))
	for _, h := range small(4) {
		want := sift(len(h.Edges), func(i, j int) bool {
			return slices.Contains(h.Edges[i][:], h.Edges[j][0]) || slices.Contains(h.Edges[i][:], h.Edges[j][1])
		})
		g, f = graph.Line(scrambled(h))
		wantGraph(t, fmt.Sprint(h), g, f, want)
	}
}

func TestLineLimits(t *testing.T) {
	g, f := graph.Line(ring(api.MaxNodes))
	if f != (api.Fault{}) || g.N != api.MaxNodes || len(g.Edges) != api.MaxNodes {
		t.Errorf("MaxNodes: N %d, %d edges, %v", g.N, len(g.Edges), f)
	}
	more := ring(api.MaxNodes)
	more.Edges = append(more.Edges, [2]int{0, 50})
	g, f = graph.Line(more)
	wantFault(t, "a node more", g, f, fault(api.ErrMany, 0))
	// a star of k leaves gives k*(k-1)/2 edges: 990 and 10
	g, f = graph.Line(stars(45, 5))
	if f != (api.Fault{}) || g.N != 50 || len(g.Edges) != api.MaxEdges {
		t.Errorf("MaxEdges: N %d, %d edges, %v", g.N, len(g.Edges), f)
	}
	g, f = graph.Line(stars(45, 5, 2))
	wantFault(t, "an edge more", g, f, fault(api.ErrMany, 0))
}

func TestInduced(t *testing.T) {
	g, f := graph.Induced(ring(5), []int{4, 0, 2})
	wantGraph(t, "a ring", g, f, of(3, 0, 1))
	g, f = graph.Induced(ring(5), nil)
	wantGraph(t, "no names", g, f, of(0))
	g, f = graph.Induced(of(0), []int{})
	wantGraph(t, "no nodes", g, f, of(0))
	for _, h := range small(4) {
		for _, names := range arrangements(h.N) {
			want := sift(len(names), func(i, j int) bool { return has(h, names[i], names[j]) })
			g, f = graph.Induced(scrambled(h), names)
			wantGraph(t, fmt.Sprint(h, names), g, f, want)
		}
	}
	most := some(api.MaxNodes, api.MaxEdges)
	back := make([]int, api.MaxNodes)
	for i := range back {
		back[i] = api.MaxNodes - 1 - i
	}
	g, f = graph.Induced(most, back)
	wantGraph(t, "all of the greatest", g, f, sift(api.MaxNodes, func(i, j int) bool { return has(most, back[i], back[j]) }))
}

// arrangements has all lists of different numbers below n.
func arrangements(n int) [][]int {
	out := [][]int{nil}
	for at := 0; at < len(out); at++ {
		for v := range n {
			if !slices.Contains(out[at], v) {
				out = append(out, append(slices.Clone(out[at]), v))
			}
		}
	}
	return out
}

func TestInducedFaults(t *testing.T) {
	long := make([]int, 5000)
	for i := range long {
		long[i] = i
	}
	for _, x := range []struct {
		n     int
		nodes []int
		f     api.Fault
	}{
		{5, []int{5}, fault(api.ErrRange, 0)},
		{5, []int{0, -1}, fault(api.ErrRange, 1)},
		{5, []int{0, math.MaxInt}, fault(api.ErrRange, 1)},
		{5, []int{math.MinInt}, fault(api.ErrRange, 0)},
		{0, []int{0}, fault(api.ErrRange, 0)},
		{5, []int{4, 4}, fault(api.ErrTwice, 1)},
		{5, []int{0, 1, 2, 0}, fault(api.ErrTwice, 3)},
		{5, []int{0, 0, 9}, fault(api.ErrTwice, 1)},
		{5, []int{0, 9, 0}, fault(api.ErrRange, 1)},
		{5, []int{9, 9}, fault(api.ErrRange, 0)},
		// ahead of ErrMany: so many names that too many nodes would come out
		{5, make([]int, 5000), fault(api.ErrTwice, 1)},
		{api.MaxNodes, long, fault(api.ErrRange, api.MaxNodes)},
		{api.MaxNodes, append(slices.Clone(long[:api.MaxNodes]), 7), fault(api.ErrTwice, api.MaxNodes)},
	} {
		g, f := graph.Induced(of(x.n), x.nodes)
		wantFault(t, fmt.Sprint("Induced of N ", x.n, " with ", len(x.nodes), " names"), g, f, x.f)
	}
}

func TestJoin(t *testing.T) {
	g, f := graph.Join(of(1), of(2))
	wantGraph(t, "a star", g, f, of(3, 0, 1, 0, 2))
	for _, a := range small(3) {
		for _, b := range small(4) {
			want := sift(a.N+b.N, func(u, v int) bool {
				return u < a.N && v >= a.N || has(a, u, v) || has(b, u-a.N, v-a.N)
			})
			g, f = graph.Join(scrambled(a), scrambled(b))
			wantGraph(t, fmt.Sprint(a, b), g, f, want)
		}
	}
}

func TestJoinLimits(t *testing.T) {
	g, f := graph.Join(of(1), of(99))
	wantGraph(t, "MaxNodes", g, f, stars(99))
	g, f = graph.Join(of(0), ring(api.MaxNodes))
	wantGraph(t, "with nothing", g, f, sift(api.MaxNodes, func(u, v int) bool { return has(ring(api.MaxNodes), u, v) }))
	g, f = graph.Join(of(1), of(api.MaxNodes))
	wantFault(t, "a node more", g, f, fault(api.ErrMany, 0))
	g, f = graph.Join(of(api.MaxNodes), of(api.MaxNodes))
	wantFault(t, "all nodes", g, f, fault(api.ErrMany, 0))
	// 10 times 90 edges between both
	g, f = graph.Join(some(10, 40), some(90, 60))
	if f != (api.Fault{}) || g.N != api.MaxNodes || len(g.Edges) != api.MaxEdges {
		t.Errorf("MaxEdges: N %d, %d edges, %v", g.N, len(g.Edges), f)
	}
	g, f = graph.Join(some(10, 40), some(90, 61))
	wantFault(t, "an edge more", g, f, fault(api.ErrMany, 0))
}

func TestProduct(t *testing.T) {
	g, f := graph.Product(of(2, 0, 1), of(2, 0, 1))
	wantGraph(t, "a ring of four", g, f, of(4, 0, 1, 0, 2, 1, 3, 2, 3))
	// not the same the other way round: i times b's N, and j
	g, f = graph.Product(of(2, 0, 1), of(3))
	wantGraph(t, "an edge by three nodes", g, f, of(6, 0, 3, 1, 4, 2, 5))
	g, f = graph.Product(of(3), of(2, 0, 1))
	wantGraph(t, "three nodes by an edge", g, f, of(6, 0, 1, 2, 3, 4, 5))
	for _, a := range small(3) {
		for _, b := range small(4) {
			g, f = graph.Product(scrambled(a), scrambled(b))
			wantGraph(t, fmt.Sprint(a, b), g, f, productByPairs(a, b))
			g, f = graph.Product(scrambled(b), scrambled(a))
			wantGraph(t, fmt.Sprint(b, a), g, f, productByPairs(b, a))
		}
	}
}

// productByPairs names each node of the product by its two nodes, and compares these.
func productByPairs(a, b api.Graph) api.Graph {
	var pairs [][2]int
	for i := range a.N {
		for j := range b.N {
			pairs = append(pairs, [2]int{i, j})
		}
	}
	return sift(len(pairs), func(u, v int) bool {
		p, q := pairs[u], pairs[v]
		if p[0] == q[0] {
			return has(b, p[1], q[1])
		}
		return p[1] == q[1] && has(a, p[0], q[0])
	})
}

func TestProductLimits(t *testing.T) {
	g, f := graph.Product(full(10), full(10))
	wantGraph(t, "MaxNodes", g, f, productByPairs(full(10), full(10)))
	g, f = graph.Product(of(1), ring(api.MaxNodes))
	wantGraph(t, "by one node", g, f, productByPairs(of(1), ring(api.MaxNodes)))
	g, f = graph.Product(ring(api.MaxNodes), of(0))
	wantGraph(t, "by nothing", g, f, of(0))
	g, f = graph.Product(of(0), ring(api.MaxNodes))
	wantGraph(t, "nothing by", g, f, of(0))
	g, f = graph.Product(of(2), of(51))
	wantFault(t, "two nodes more", g, f, fault(api.ErrMany, 0))
	g, f = graph.Product(of(api.MaxNodes), of(api.MaxNodes))
	wantFault(t, "all nodes", g, f, fault(api.ErrMany, 0))
	// 4 times b's edges and 25 times a's
	g, f = graph.Product(some(4, 4), some(25, 225))
	if f != (api.Fault{}) || g.N != api.MaxNodes || len(g.Edges) != api.MaxEdges {
		t.Errorf("MaxEdges: N %d, %d edges, %v", g.N, len(g.Edges), f)
	}
	g, f = graph.Product(some(4, 1), some(25, 244))
	wantFault(t, "an edge more", g, f, fault(api.ErrMany, 0))
}
