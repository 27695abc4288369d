package plane_test

import (
	"fmt"
	"math"
	"slices"
	"testing"

	"arbor/api"
)

// Each call tells first what is wrong with a graph.
func TestFaults(t *testing.T) {
	for _, c := range calls() {
		for _, w := range []struct {
			name string
			g    api.Graph
			want api.Fault
		}{
			{"fewer nodes than none", of(-1), fault(api.ErrMany, 0)},
			{"one node too many", of(api.MaxNodes + 1), fault(api.ErrMany, 0)},
			{"one edge too many", some(api.MaxNodes, api.MaxEdges+1), fault(api.ErrMany, 0)},
			{"one edge too many, and it is wrong", with(some(api.MaxNodes, api.MaxEdges), 0, 0), fault(api.ErrMany, 0)},
			{"no node", of(3, 0, 1, 1, 3), fault(api.ErrRange, 1)},
			{"no node, of none", of(0, 0, 1), fault(api.ErrRange, 0)},
			{"below 0", of(3, 0, 1, 1, 2, -1, 2), fault(api.ErrRange, 2)},
			{"a loop", of(3, 0, 1, 2, 2), fault(api.ErrLoop, 1)},
			{"twice", of(3, 0, 1, 1, 2, 0, 1), fault(api.ErrTwice, 2)},
			{"twice, the other way round", of(3, 0, 1, 1, 0), fault(api.ErrTwice, 1)},
			{"the first of two", of(3, 0, 1, 2, 2, 0, 1, 0, 7), fault(api.ErrLoop, 1)},
			{"wrong, and not in the plane", with(full(5), 0, 1), fault(api.ErrTwice, 10)},
			{"wrong, and many nodes", with(ring(99), 3, 3), fault(api.ErrLoop, 99)},
		} {
			for _, round := range [][][]int{nil, {{1}, {0}, {}}, make([][]int, max(0, w.g.N))} {
				got, f := c.ask(w.g, round)
				wantFault(t, c.name+" of "+w.name, got, f, w.want)
			}
		}
	}
}

// spare is a list with memory behind its length, in which odd things stand.
func spare[T any](l []T, odd T) []T {
	return append(slices.Clone(l), odd, odd)[:len(l)]
}

// spoil writes over all memory of a list, also behind its length.
func spoil[T any](l []T, odd T) {
	for i := range l[:cap(l)] {
		l[:cap(l)][i] = odd
	}
}

func wholeOf[T any](l []T) []T { return l[:len(l)+2] }

func TestListsAreOnlyReadAndAnswersAreNew(t *testing.T) {
	all := append(small(4), scrambled(ring(6)), full(5), scrambled(sides(3, 3)), petersen(), scrambled(path(7)), star(6), scrambled(grid(3, 4)), of(2, 0, 1, 1, 1), groups(4, 3), chain(full(4), 3), shuffled(full(12), 1), longer(full(5), 30))
	for seed := range 60 {
		all = append(all, mixed(12, 10+seed, seed), packed(12, seed, seed))
	}
	for seed, g := range all {
		for _, c := range calls() {
			wantNew(t, c, g, mixedRound(g, seed))
		}
	}
}

func wantNew(t *testing.T, c call, was api.Graph, order [][]int) {
	t.Helper()
	g := api.Graph{N: was.N, Edges: spare(was.Edges, [2]int{-7, -7})}
	round := spare(order, []int{-7})
	for v, l := range round {
		round[v] = spare(l, -7)
	}
	tellIn := func() string {
		out := fmt.Sprint(wholeOf(g.Edges), wholeOf(round))
		for _, l := range round {
			out += fmt.Sprint(wholeOf(l))
		}
		return out
	}
	before := tellIn()
	first, f := c.ask(g, round)
	second, again := c.ask(g, round)
	told := fmt.Sprint(first, f)
	wantApart(t, c.name, first)
	spoil(first.lists, []int{-9})
	spoil(first.bad, [2]int{-9, -9})
	third, _ := c.ask(g, round)
	if fmt.Sprint(second, again) != told || fmt.Sprint(third, f) != told {
		t.Errorf("%s of %v: %s, then %v, then %v", c.name, was, told, second, third)
	}
	if after := tellIn(); after != before {
		t.Errorf("%s changed %s to %s", c.name, before, after)
	}
}

// wantApart writes over all memory of each list, and looks whether another one changes.
func wantApart(t *testing.T, name string, a answer) {
	t.Helper()
	for i, l := range a.lists {
		was := fmt.Sprint(a.lists[i+1:])
		spoil(l, -9)
		if fmt.Sprint(a.lists[i+1:]) != was {
			t.Errorf("%s: list %d shares memory with one behind it", name, i)
		}
	}
}

func TestListsWithoutElementsAreTheSame(t *testing.T) {
	for _, n := range []int{-1, 0, 1, 2, 3, api.MaxNodes, api.MaxNodes + 1} {
		one, two := api.Graph{N: n}, api.Graph{N: n, Edges: [][2]int{}}
		empty := slices.Repeat([][]int{{}}, max(n, 0))
		rounds := [][][]int{empty, make([][]int, max(n, 0))}
		if tellAll(one, rounds[0]) != tellAll(two, rounds[1]) || tellAll(one, nil) != tellAll(two, [][]int{}) {
			t.Errorf("%d nodes: %s, then %s", n, tellAll(one, rounds[0]), tellAll(two, rounds[1]))
		}
	}
}

// numbers at which arithmetic and limits give way.
func numbers() []int {
	return []int{math.MinInt, -1, 0, 1, 2, 63, 64, api.MaxNodes - 1, api.MaxNodes, api.MaxNodes + 1, 127, 128, math.MaxInt}
}

func TestNoCallPanicsAndAnswersHangOnArgumentsAlone(t *testing.T) {
	all := append(great(), api.Graph{N: 3, Edges: make([][2]int, 100000)})
	for seed := range 100 {
		all = append(all, mixed(5+seed%20, 10+seed, seed))
	}
	for _, n := range numbers() {
		for _, u := range numbers() {
			for _, v := range numbers() {
				all = append(all, of(n, 0, 1, u, v), of(n, u, v))
			}
		}
	}
	for seed, g := range all {
		for _, round := range oddRounds(g, seed) {
			if first, second := tellAll(g, round), tellAll(g, round); first != second {
				t.Errorf("%v with %v: %s, then %s", g, round, first, second)
			}
		}
	}
}

// oddRounds has lists that go with the number of nodes, if that may be, but with odd numbers in them.
func oddRounds(g api.Graph, seed int) [][][]int {
	if g.N < 0 || g.N > api.MaxNodes || len(g.Edges) > 5 {
		return [][][]int{nil}
	}
	odd := slices.Repeat([][]int{numbers()}, g.N)
	for v := range odd {
		odd[v] = odd[v][v%len(odd[v]):]
	}
	one := make([][]int, g.N)
	for v := range one {
		one[v] = []int{numbers()[(v+seed)%len(numbers())]}
	}
	return [][][]int{nil, odd, one}
}
