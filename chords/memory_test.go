package chords_test

import (
	"fmt"
	"math"
	"slices"
	"testing"

	"arbor/api"
)

// Each call tells what is wrong with a graph, then that it has too many nodes for it, then that it has nothing to tell.
func TestFaults(t *testing.T) {
	for _, c := range calls() {
		for _, w := range []struct {
			name string
			g    api.Graph
			want api.Fault
		}{
			{"fewer nodes than none", of(-1), fault(api.ErrMany, 0)},
			{"one node too many", of(api.MaxNodes + 1), fault(api.ErrMany, 0)},
			{"one edge too many", some(api.MaxNodes, api.MaxEdges+1), fault(api.ErrMany, 0)},
			{"one edge too many, and it is wrong", with(some(api.MaxNodes, api.MaxEdges), 0, 0), fault(api.ErrMany, 0)},
			{"no node", of(3, 0, 1, 1, 3), fault(api.ErrRange, 1)},
			{"no node, of none", of(0, 0, 1), fault(api.ErrRange, 0)},
			{"below 0", of(3, 0, 1, 1, 2, -1, 2), fault(api.ErrRange, 2)},
			{"a loop", of(3, 0, 1, 2, 2), fault(api.ErrLoop, 1)},
			{"twice", of(3, 0, 1, 1, 2, 0, 1), fault(api.ErrTwice, 2)},
			{"twice, the other way round", of(3, 0, 1, 1, 0), fault(api.ErrTwice, 1)},
			{"the first of two", of(3, 0, 1, 2, 2, 0, 1, 0, 7), fault(api.ErrLoop, 1)},
			{"wrong, and a ring", with(ring(5), 0, 1), fault(api.ErrTwice, 5)},
			{"wrong, and many nodes", with(ring(99), 3, 3), fault(api.ErrLoop, 99)},
		} {
			got, f := c.ask(w.g)
			wantFault(t, c.name+" of "+w.name, got, f, w.want)
		}
	}
}

func TestTooManyNodes(t *testing.T) {
	for _, c := range calls() {
		for _, g := range []api.Graph{of(c.limit + 1), path(c.limit + 1), ring(c.limit + 1), of(api.MaxNodes), path(api.MaxNodes), ring(api.MaxNodes), ring(api.MaxNodes - 1), some(api.MaxNodes, api.MaxEdges)} {
			got, f := c.ask(g)
			if g.N > c.limit {
				wantFault(t, fmt.Sprint(c.name, " of ", g.N), got, f, fault(api.ErrMany, 0))
			} else if f.Code == api.ErrMany {
				t.Errorf("%s of %d nodes: %v", c.name, g.N, f)
			}
		}
		for _, g := range []api.Graph{path(c.limit), path(c.limit - 1), star(c.limit)} {
			if got, f := c.ask(g); f != (api.Fault{}) || got.isEmpty() {
				t.Errorf("%s of %d nodes: %v %v", c.name, g.N, got, f)
			}
		}
	}
}

// spare is a list with memory behind its length, in which odd things stand.
func spare[T any](l []T, odd T) []T {
	return append(slices.Clone(l), odd, odd)[:len(l)]
}

// spoil writes over all memory of a list, also behind its length.
func spoil[T any](l []T, odd T) {
	for i := range l[:cap(l)] {
		l[:cap(l)][i] = odd
	}
}

func wholeOf[T any](l []T) []T { return l[:len(l)+2] }

func TestListsAreOnlyReadAndAnswersAreNew(t *testing.T) {
	all := append(small(4), scrambled(ring(6)), full(5), petersen(), scrambled(path(7)), star(6), scrambled(grid(3, 4)), of(2, 0, 1, 1, 1), groups(4, 3), row(3, 3), shuffled(full(12), 1))
	for seed := range 60 {
		all = append(all, mixed(12, 10+seed, seed), meeting(12, 20, 8, seed), ordered(12, 2, seed))
	}
	for _, g := range all {
		for _, c := range calls() {
			wantNew(t, c, g)
		}
	}
}

func wantNew(t *testing.T, c call, was api.Graph) {
	t.Helper()
	g := api.Graph{N: was.N, Edges: spare(was.Edges, [2]int{-7, -7})}
	before := fmt.Sprint(wholeOf(g.Edges))
	first, f := c.ask(g)
	second, again := c.ask(g)
	told := fmt.Sprint(first, f)
	wantApart(t, c.name, first)
	spoil(first.pairs, [2]int{-9, -9})
	third, _ := c.ask(g)
	if fmt.Sprint(second, again) != told || fmt.Sprint(third, f) != told {
		t.Errorf("%s of %v: %s, then %v, then %v", c.name, was, told, second, third)
	}
	if after := fmt.Sprint(wholeOf(g.Edges)); after != before {
		t.Errorf("%s changed %s to %s", c.name, before, after)
	}
}

// wantApart writes over all memory of each list, and looks whether another one changes.
func wantApart(t *testing.T, name string, a answer) {
	t.Helper()
	lists := append(slices.Clone(a.cliques), a.order, a.hole)
	for i, l := range lists {
		was := fmt.Sprint(lists[i+1:])
		spoil(l, -9)
		if fmt.Sprint(lists[i+1:]) != was {
			t.Errorf("%s: list %d shares memory with one behind it", name, i)
		}
	}
}

func TestListsWithoutElementsAreTheSame(t *testing.T) {
	for _, n := range []int{-1, 0, 1, 2, 3, api.MaxSmall, api.MaxSmall + 1, 2*api.MaxSmall + 1, api.MaxNodes, api.MaxNodes + 1} {
		one, two := api.Graph{N: n}, api.Graph{N: n, Edges: [][2]int{}}
		if tellAll(one) != tellAll(two) {
			t.Errorf("%d nodes: %s, then %s", n, tellAll(one), tellAll(two))
		}
	}
}

// numbers at which arithmetic and limits give way.
func numbers() []int {
	return []int{math.MinInt, -1, 0, 1, 2, api.MaxSmall, api.MaxSmall + 1, 2 * api.MaxSmall, 2*api.MaxSmall + 1, 63, 64, api.MaxNodes - 1, api.MaxNodes, api.MaxNodes + 1, math.MaxInt}
}

func TestNoCallPanicsAndAnswersHangOnArgumentsAlone(t *testing.T) {
	all := append(great(), api.Graph{N: 3, Edges: make([][2]int, 100000)})
	for seed := range 100 {
		all = append(all, mixed(5+seed%20, 10+seed, seed))
	}
	for _, n := range numbers() {
		for _, u := range numbers() {
			for _, v := range numbers() {
				all = append(all, of(n, 0, 1, u, v), of(n, u, v))
			}
		}
	}
	for _, g := range all {
		if first, second := tellAll(g), tellAll(g); first != second {
			t.Errorf("%v: %s, then %s", g, first, second)
		}
	}
}
