package flow_test

import (
	"fmt"
	"math"
	"slices"
	"testing"

	"arbor/api"
)

// spare is a list with memory behind its length, in which odd things stand.
func spare[T any](l []T, odd T) []T {
	return append(slices.Clone(l), odd, odd)[:len(l)]
}

// spoil writes over all memory of a list, also behind its length.
func spoil[T any](l []T, odd T) {
	for i := range l[:cap(l)] {
		l[:cap(l)][i] = odd
	}
}

func wholeOf[T any](l []T) []T { return l[:len(l)+2] }

func TestListsAreOnlyReadAndAnswersAreNew(t *testing.T) {
	all := append(small(4), scrambled(ring(6)), full(5), petersen(), scrambled(path(7)), star(6), scrambled(grid(3, 4)), of(2, 0, 1, 1, 1), layers(4, 3))
	for seed := range 60 {
		all = append(all, mixed(12, 10+seed, seed))
	}
	for seed, g := range all {
		weights := mixedWeights(g, 9, seed)
		q := question{n: eitherWay(g, weights), g: g, s: 0, t: g.N - 1, weights: weights}
		for _, c := range calls() {
			wantNew(t, c, q)
		}
	}
}

func wantNew(t *testing.T, c call, was question) {
	t.Helper()
	oddArc := api.Arc{From: -7, To: -7, Cap: -7}
	q := was
	q.n.Arcs = spare(was.n.Arcs, oddArc)
	q.g.Edges = spare(was.g.Edges, [2]int{-7, -7})
	q.weights = spare(was.weights, -7)
	before := fmt.Sprint(wholeOf(q.n.Arcs), wholeOf(q.g.Edges), wholeOf(q.weights))
	first, f := c.ask(q)
	second, again := c.ask(q)
	told := fmt.Sprint(first, f)
	wantNoneShared(t, c, first)
	third, _ := c.ask(q)
	if fmt.Sprint(second, again) != told || fmt.Sprint(third, f) != told {
		t.Errorf("%s of %v: %s, then %v, then %v", c.name, was, told, second, third)
	}
	if after := fmt.Sprint(wholeOf(q.n.Arcs), wholeOf(q.g.Edges), wholeOf(q.weights)); after != before {
		t.Errorf("%s changed %s to %s", c.name, before, after)
	}
}

// wantNoneShared writes over one list of an answer after the other, and looks whether the lists behind it stay.
func wantNoneShared(t *testing.T, c call, got answer) {
	t.Helper()
	spoil(got.edges, [2]int{-9, -9})
	lists := append(slices.Clone(got.ways), got.first, got.second)
	spoil(got.ways, []int{-9})
	for i, l := range lists {
		told := fmt.Sprint(lists[i+1:])
		spoil(l, -9)
		if fmt.Sprint(lists[i+1:]) != told {
			t.Errorf("%s: list %d shares memory with %s", c.name, i, told)
		}
	}
}

func TestListsWithoutElementsAreTheSame(t *testing.T) {
	for _, n := range []int{-1, 0, 1, 2, 3, api.MaxNodes, api.MaxNodes + 1} {
		for _, ends := range [][2]int{{0, 0}, {0, 1}, {2, 0}} {
			one := question{n: api.Net{N: n}, g: api.Graph{N: n}, s: ends[0], t: ends[1]}
			two := question{n: api.Net{N: n, Arcs: []api.Arc{}}, g: api.Graph{N: n, Edges: [][2]int{}}, s: ends[0], t: ends[1], weights: []int{}}
			if tellAll(one) != tellAll(two) {
				t.Errorf("%d nodes: %s, then %s", n, tellAll(one), tellAll(two))
			}
		}
	}
}

// numbers at which arithmetic and limits give way.
func numbers() []int {
	return []int{math.MinInt, -1, 0, 1, 2, api.MaxNodes - 1, api.MaxNodes, api.MaxNodes + 1, api.MaxValue, api.MaxValue + 1, math.MaxInt}
}

func TestNoCallPanicsAndAnswersHangOnArgumentsAlone(t *testing.T) {
	all := []question{{n: api.Net{N: 3, Arcs: make([]api.Arc, 100000)}, g: api.Graph{N: 3, Edges: make([][2]int, 100000)}, t: 1}}
	for seed, g := range great() {
		all = append(all, question{n: mixedNet(g.N, len(g.Edges), api.MaxValue, seed), g: g, s: seed % g.N, t: g.N / 2, weights: mixedWeights(g, api.MaxValue, seed)})
	}
	for _, n := range numbers() {
		for _, u := range numbers() {
			for _, v := range numbers() {
				all = append(all, question{n: netOf(n), g: of(n), s: u, t: v})
				all = append(all, question{n: netOf(n, 0, 1, u, v, 0, u), g: of(n, 0, 1, u, v), s: u, t: v, weights: []int{v, u}})
				all = append(all, question{n: netOf(n, u, v, n), g: of(n, u, v), s: 0, t: 2, weights: []int{n}})
			}
		}
	}
	for _, q := range all {
		if first, second := tellAll(q), tellAll(q); first != second {
			t.Errorf("%v: %s, then %s", q, first, second)
		}
	}
}
