package draw_test

import (
	"fmt"
	"math"
	"slices"
	"testing"

	"arbor/api"
)

// Each call tells first what is wrong with a graph.
func TestFaults(t *testing.T) {
	for _, c := range calls() {
		for _, w := range []struct {
			name string
			g    api.Graph
			want api.Fault
		}{
			{"fewer nodes than none", of(-1), fault(api.ErrMany, 0)},
			{"one node too many", of(api.MaxNodes + 1), fault(api.ErrMany, 0)},
			{"one edge too many", some(api.MaxNodes, api.MaxEdges+1), fault(api.ErrMany, 0)},
			{"one edge too many, and it is wrong", with(some(api.MaxNodes, api.MaxEdges), 0, 0), fault(api.ErrMany, 0)},
			{"no node", of(3, 0, 1, 1, 3), fault(api.ErrRange, 1)},
			{"no node, of none", of(0, 0, 1), fault(api.ErrRange, 0)},
			{"below 0", of(3, 0, 1, 1, 2, -1, 2), fault(api.ErrRange, 2)},
			{"a loop", of(3, 0, 1, 2, 2), fault(api.ErrLoop, 1)},
			{"twice", of(3, 0, 1, 1, 2, 0, 1), fault(api.ErrTwice, 2)},
			{"twice, the other way round", of(3, 0, 1, 1, 0), fault(api.ErrTwice, 1)},
			{"the first of two", of(3, 0, 1, 2, 2, 0, 1, 0, 7), fault(api.ErrLoop, 1)},
			{"wrong, and not in the plane", with(full(5), 0, 1), fault(api.ErrTwice, 10)},
			{"wrong, and many nodes", with(ring(99), 3, 3), fault(api.ErrLoop, 99)},
		} {
			for _, at := range [][]api.Point{nil, on(0, 0, 2, 0, 1, 1), make([]api.Point, max(0, w.g.N)), slices.Repeat(on(math.MaxInt, math.MinInt), 3)} {
				got, f := c.ask(w.g, at)
				wantFault(t, c.name+" of "+w.name, got, f, w.want)
			}
		}
	}
}

// spare is a list with memory behind its length, in which odd things stand.
func spare[T any](l []T, odd T) []T {
	return append(slices.Clone(l), odd, odd)[:len(l)]
}

// spoil writes over all memory of a list, also behind its length.
func spoil[T any](l []T, odd T) {
	for i := range l[:cap(l)] {
		l[:cap(l)][i] = odd
	}
}

func wholeOf[T any](l []T) []T { return l[:len(l)+2] }

func TestListsAreOnlyReadAndAnswersAreNew(t *testing.T) {
	all := append(small(4), scrambled(ring(6)), full(5), scrambled(sides(3, 3)), petersen(), scrambled(path(7)), star(6), scrambled(grid(3, 4)), of(2, 0, 1, 1, 1), groups(4, 3), chain(full(4), 3), shuffled(full(12), 1), longer(full(5), 20), of(0), of(1), of(2, 1, 0))
	for seed := range 60 {
		all = append(all, mixed(12, 10+seed, seed), packed(12, seed, seed), thinned(packed(24, seed, seed), 50, seed))
	}
	for seed, g := range all {
		for _, c := range calls() {
			wantNew(t, c, g, scattered(g.N, 1+seed*10, drawFrom(seed)))
			wantNew(t, c, g, on(0, 0, 1, 1, 2, 3, 4, api.MaxValue+1))
		}
	}
}

func wantNew(t *testing.T, c call, was api.Graph, points []api.Point) {
	t.Helper()
	g := api.Graph{N: was.N, Edges: spare(was.Edges, [2]int{-7, -7})}
	at := spare(points, api.Point{X: -7, Y: 1 << 40})
	tellIn := func() string { return fmt.Sprint(wholeOf(g.Edges), wholeOf(at)) }
	before := tellIn()
	first, f := c.ask(g, at)
	second, again := c.ask(g, at)
	told := fmt.Sprint(first, f)
	spoil(first.at, api.Point{X: -9, Y: -9})
	third, _ := c.ask(g, at)
	if fmt.Sprint(second, again) != told || fmt.Sprint(third, f) != told {
		t.Errorf("%s of %v: %s, then %v, then %v", c.name, was, told, second, third)
	}
	if after := tellIn(); after != before {
		t.Errorf("%s changed %s to %s", c.name, before, after)
	}
}

func TestListsWithoutElementsAreTheSame(t *testing.T) {
	for _, n := range []int{-1, 0, 1, 2, 3, most, most + 1, api.MaxNodes, api.MaxNodes + 1} {
		one, two := api.Graph{N: n}, api.Graph{N: n, Edges: [][2]int{}}
		for _, at := range [][]api.Point{scattered(max(0, n), 100, drawFrom(n)), {}} {
			if tellAll(one, at) != tellAll(two, at) || tellAll(one, nil) != tellAll(two, []api.Point{}) {
				t.Errorf("%d nodes: %s, then %s", n, tellAll(one, at), tellAll(two, at))
			}
		}
	}
}

// numbers at which arithmetic and limits give way.
func numbers() []int {
	return []int{math.MinInt, math.MinInt + 1, -api.MaxValue - 1, -api.MaxValue, -1, 0, 1, 2, 3, most, most + 1, api.MaxNodes - 1, api.MaxNodes, api.MaxNodes + 1, api.MaxValue, api.MaxValue + 1, math.MaxInt}
}

func TestNoCallPanicsAndAnswersHangOnArgumentsAlone(t *testing.T) {
	all := []api.Graph{{N: 3, Edges: make([][2]int, 100000)}, full(45), some(api.MaxNodes, api.MaxEdges), full(most), sides(12, 12), groups(8, 3), longer(full(5), most)}
	for seed := range 100 {
		all = append(all, mixed(5+seed%20, 10+seed, seed), packed(24, seed, seed))
	}
	for _, n := range numbers() {
		for _, u := range numbers() {
			for _, v := range numbers() {
				all = append(all, of(n, 0, 1, u, v), of(n, u, v))
			}
		}
	}
	for seed, g := range all {
		for _, at := range oddPoints(g, seed) {
			if first, second := tellAll(g, at), tellAll(g, at); first != second {
				t.Errorf("%v at %v: %s, then %s", g, at, first, second)
			}
		}
	}
}

// oddPoints has lists that go with the number of nodes, if that may be, but with odd numbers in them.
func oddPoints(g api.Graph, seed int) [][]api.Point {
	if g.N < 0 || g.N > api.MaxNodes {
		return [][]api.Point{nil}
	}
	next := drawFrom(seed)
	odd := make([]api.Point, g.N)
	for v := range odd {
		odd[v] = api.Point{X: numbers()[next(len(numbers()))], Y: numbers()[next(len(numbers()))]}
	}
	return [][]api.Point{nil, odd, make([]api.Point, g.N), scattered(g.N, api.MaxValue, next)}
}
