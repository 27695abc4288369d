package walks_test

import (
	"fmt"
	"math"
	"runtime"
	"sync"
	"testing"
	"time"

	"arbor/api"
	"arbor/walks"
)

const maxWorkers = 16

func TestFarByHand(t *testing.T) {
	for _, x := range []struct {
		name string
		g    api.Graph
		from int
		want string
	}{
		{"a node", of(1), 0, "[0]"},
		{"nodes alone", of(3), 1, "[-1 0 -1]"},
		{"an edge", of(2, 1, 0), 1, "[1 0]"},
		{"a path and a node", of(4, 0, 1, 1, 2), 0, "[0 1 2 -1]"},
		{"from the middle", path(5), 2, "[2 1 0 1 2]"},
		{"a ring", ring(6), 0, "[0 1 2 3 2 1]"},
		{"the shorter one of two", of(5, 0, 1, 1, 2, 2, 3, 3, 4, 4, 0, 0, 3), 0, "[0 1 2 1 1]"},
		{"another part", beside(ring(3), path(3)), 4, "[-1 -1 -1 1 0 1]"},
		{"the last node", path(api.MaxNodes), api.MaxNodes - 1, fmt.Sprint(falling(api.MaxNodes))},
	} {
		l, f := walks.Far(x.g, x.from)
		same(t, "Far, "+x.name, l, x.want, f)
		for workers := 1; workers <= maxWorkers; workers++ {
			l, f = walks.Spread(x.g, x.from, workers)
			same(t, fmt.Sprint("Spread by ", workers, ", ", x.name), l, x.want, f)
		}
	}
}

// falling is n-1 to 0.
func falling(n int) []int {
	l := make([]int, n)
	for i := range l {
		l[i] = n - 1 - i
	}
	return l
}

func TestFarAndSpread(t *testing.T) {
	for _, g := range append(small(5), medium()...) {
		far := distances(g)
		for from := range g.N {
			l, f := walks.Far(scrambled(g), from)
			same(t, fmt.Sprint("Far from ", from, " in ", g), l, far[from], f)
			for _, workers := range []int{1, 2, 3, maxWorkers} {
				l, f = walks.Spread(g, from, workers)
				same(t, fmt.Sprint("Spread from ", from, " by ", workers, " in ", g), l, far[from], f)
			}
		}
	}
}

func TestFarAndSpreadOfGreatGraphs(t *testing.T) {
	for _, g := range great() {
		far := distances(g)
		for from := 0; from < g.N; from += 7 {
			l, f := walks.Far(g, from)
			same(t, fmt.Sprint("Far from ", from, " in ", g), l, far[from], f)
			for workers := 1; workers <= maxWorkers; workers += 5 {
				l, f = walks.Spread(scrambled(g), from, workers)
				same(t, fmt.Sprint("Spread from ", from, " by ", workers, " in ", g), l, far[from], f)
			}
		}
	}
}

func TestHowWorkersRunIsNotToBeSeen(t *testing.T) {
	for _, g := range []api.Graph{full(45), twoSides(25, 40), mixed(api.MaxNodes, 1300, 99), mixed(api.MaxNodes, 150, 3)} {
		want, _ := walks.Far(g, 5)
		for range 200 {
			l, f := walks.Spread(g, 5, maxWorkers)
			same(t, fmt.Sprint("Spread from 5 in ", g), l, want, f)
		}
	}
}

func TestCallsSideBySide(t *testing.T) {
	g := mixed(api.MaxNodes, 300, 4)
	far := distances(g)
	var wait sync.WaitGroup
	for from := range 50 {
		wait.Go(func() {
			l, f := walks.Spread(g, from, 1+from%maxWorkers)
			same(t, fmt.Sprint("Spread from ", from), l, far[from], f)
		})
	}
	wait.Wait()
}

func TestWorkersHaveEnded(t *testing.T) {
	before := runtime.NumGoroutine()
	for range 100 {
		walks.Spread(path(50), 0, maxWorkers)
	}
	// one that has said that it is done may be counted for a moment yet
	for range 1000 {
		if runtime.NumGoroutine() <= before {
			return
		}
		time.Sleep(time.Millisecond)
	}
	t.Errorf("%d goroutines, %d before", runtime.NumGoroutine(), before)
}

func TestSpreadFaults(t *testing.T) {
	for _, workers := range []int{math.MinInt, -1, 0, maxWorkers + 1, math.MaxInt} {
		l, f := walks.Spread(petersen(), 3, workers)
		wantFault(t, fmt.Sprint("Spread by ", workers), l, f, fault(api.ErrRange, 1))
		l, f = walks.Spread(petersen(), 10, workers)
		wantFault(t, fmt.Sprint("Spread from no node by ", workers), l, f, fault(api.ErrRange, 0))
		l, f = walks.Spread(of(0), 0, workers)
		wantFault(t, fmt.Sprint("Spread of nothing by ", workers), l, f, fault(api.ErrRange, 0))
	}
}

func TestFromNoNode(t *testing.T) {
	for _, g := range []api.Graph{{}, of(1), ring(5), of(api.MaxNodes)} {
		for _, v := range []int{math.MinInt, -1, g.N, g.N + 1, math.MaxInt} {
			l, f := walks.Far(g, v)
			wantFault(t, fmt.Sprint("Far from ", v, " of ", g.N), l, f, fault(api.ErrRange, 0))
			l, f = walks.Spread(g, v, 3)
			wantFault(t, fmt.Sprint("Spread from ", v, " of ", g.N), l, f, fault(api.ErrRange, 0))
			l, f = walks.Way(g, v, 0)
			wantFault(t, fmt.Sprint("Way from ", v, " of ", g.N), l, f, fault(api.ErrRange, 0))
			l, f = walks.Way(g, v, -5)
			wantFault(t, fmt.Sprint("Way from ", v, " of ", g.N, " to none"), l, f, fault(api.ErrRange, 0))
			if g.N > 0 {
				l, f = walks.Way(g, 0, v)
				wantFault(t, fmt.Sprint("Way to ", v, " of ", g.N), l, f, fault(api.ErrRange, 1))
			}
		}
	}
}

func TestWayByHand(t *testing.T) {
	for _, x := range []struct {
		name     string
		g        api.Graph
		from, to int
		want     string
	}{
		{"to itself", ring(4), 2, 2, "[2]"},
		{"a node alone", of(1), 0, 0, "[0]"},
		{"an edge", of(2, 0, 1), 1, 0, "[1 0]"},
		{"the least of two", ring(4), 2, 0, "[2 1 0]"},
		{"the least of two, the other way", ring(4), 1, 3, "[1 0 3]"},
		{"the shorter one, not the less", of(5, 0, 1, 1, 2, 2, 4, 0, 3, 3, 4), 0, 4, "[0 3 4]"},
		// from the far end the least would be 6, 3, 2, 0: read from the first node on, 1 is less
		{"from the first one on", of(7, 0, 1, 0, 2, 1, 5, 2, 3, 5, 6, 3, 6), 0, 6, "[0 1 5 6]"},
		{"and back", of(7, 0, 1, 0, 2, 1, 5, 2, 3, 5, 6, 3, 6), 6, 0, "[6 3 2 0]"},
		{"no way on from the least", of(6, 0, 1, 0, 2, 2, 3, 1, 4, 4, 5, 5, 3), 0, 3, "[0 2 3]"},
		{"numbers, not texts", of(12, 0, 10, 0, 2, 10, 11, 2, 11), 0, 11, "[0 2 11]"},
	} {
		l, f := walks.Way(x.g, x.from, x.to)
		same(t, "Way, "+x.name, l, x.want, f)
		l, f = walks.Way(scrambled(x.g), x.from, x.to)
		same(t, "Way, scrambled, "+x.name, l, x.want, f)
	}
}

func TestWay(t *testing.T) {
	for _, g := range append(small(5), medium()...) {
		for to := range g.N {
			for from, want := range leastWays(g, to) {
				wantWay(t, scrambled(g), from, to, want)
			}
		}
	}
}

func TestWayOfGreatGraphs(t *testing.T) {
	for _, g := range great() {
		for to := 3; to < g.N; to += 90 {
			for from, want := range leastWays(g, to) {
				wantWay(t, g, from, to, want)
			}
		}
	}
}

// wantWay: no way is wanted, if the list is empty.
func wantWay(t *testing.T, g api.Graph, from, to int, want []int) {
	t.Helper()
	l, f := walks.Way(g, from, to)
	what := fmt.Sprint("Way from ", from, " to ", to, " in ", g)
	if want == nil {
		wantFault(t, what, l, f, fault(api.ErrNone, 0))
		return
	}
	same(t, what, l, want, f)
}

func TestGirthByHand(t *testing.T) {
	for _, x := range []struct {
		name string
		g    api.Graph
		want int
	}{
		{"nothing", of(0), 0},
		{"a node", of(1), 0},
		{"an edge", of(2, 0, 1), 0},
		{"an edge and a node", of(3, 0, 1), 0},
		{"a triangle", full(3), 3},
		{"a ring of four", ring(4), 4},
		{"a ring of five", ring(5), 5},
		{"Petersen's graph", petersen(), 5},
		{"two sides", twoSides(3, 3), 4},
		{"a star", star(8), 0},
		{"paths", beside(path(5), path(6)), 0},
		{"the second one is shorter", beside(ring(7), ring(4)), 4},
		{"the first one is shorter", beside(ring(4), ring(7)), 4},
		{"a chord", with(ring(9), 2, 6), 5},
		{"far from the first node", with(path(12), 11, 7), 5},
		{"a cube", grid3(2), 4},
		{"a grid", grid(10, 10), 4},
		{"MaxNodes", ring(api.MaxNodes), api.MaxNodes},
		{"one less", ring(api.MaxNodes - 1), api.MaxNodes - 1},
		{"MaxNodes, two rings", with(ring(api.MaxNodes), 0, 50), 51},
		{"MaxNodes, no ring", path(api.MaxNodes), 0},
		{"MaxEdges", some(api.MaxNodes, api.MaxEdges), 3},
		{"MaxEdges on two sides", twoSides(25, 40), 4},
		{"Heawood's graph", jumps(14, 5, -5), 6},
		{"McGee's graph", jumps(24, 12, 7, -7), 7},
		{"Tutte's and Coxeter's graph", jumps(30, -13, -9, 7, -7, 9, 13), 8},
	} {
		n, f := walks.Girth(x.g)
		same(t, "Girth, "+x.name, n, x.want, f)
		n, f = walks.Girth(scrambled(x.g))
		same(t, "Girth, scrambled, "+x.name, n, x.want, f)
	}
}

// grid3 is a grid of so many nodes each of three ways.
func grid3(side int) api.Graph {
	layer := grid(side, side)
	g := layer
	for i := 1; i < side; i++ {
		g = beside(g, layer)
		for v := range layer.N {
			g.Edges = append(g.Edges, [2]int{(i-1)*layer.N + v, i*layer.N + v})
		}
	}
	return g
}

// jumps is a ring of n nodes, each of which has an edge besides, so many nodes on, by turns.
func jumps(n int, turns ...int) api.Graph {
	g := ring(n)
	for v := range n {
		if u := (v + turns[v%len(turns)] + n) % n; !has(g, u, v) {
			g.Edges = append(g.Edges, [2]int{v, u})
		}
	}
	return g
}

func TestGirth(t *testing.T) {
	for _, g := range small(5) {
		n, f := walks.Girth(scrambled(g))
		same(t, fmt.Sprint("Girth of ", g), n, girthByRings(g), f)
	}
	for _, g := range medium() {
		n, f := walks.Girth(g)
		same(t, fmt.Sprint("Girth of ", g), n, girthByEdges(g), f)
		if len(g.Edges) < 16 {
			same(t, fmt.Sprint("Girth of ", g), n, girthByRings(g), f)
		}
	}
	for _, g := range great() {
		if len(g.Edges) < 400 {
			n, f := walks.Girth(g)
			same(t, fmt.Sprint("Girth of ", g), n, girthByEdges(g), f)
		}
	}
}
