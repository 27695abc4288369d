package match_test

import (
	"fmt"
	"math"
	"slices"
	"testing"

	"arbor/api"
)

type faulty struct {
	name string
	g    api.Graph
	f    api.Fault
}

func faultyGraphs() []faulty {
	last := some(api.MaxNodes, api.MaxEdges)
	last.Edges[api.MaxEdges-1] = [2]int{1, 0}
	return []faulty{
		{"N below 0", of(-1), fault(api.ErrMany, 0)},
		{"N the least", of(math.MinInt), fault(api.ErrMany, 0)},
		{"a node too many", of(api.MaxNodes + 1), fault(api.ErrMany, 0)},
		{"a path with a node too many", path(api.MaxNodes + 1), fault(api.ErrMany, 0)},
		{"N the greatest", of(math.MaxInt), fault(api.ErrMany, 0)},
		{"an edge too many", some(api.MaxNodes, api.MaxEdges+1), fault(api.ErrMany, 0)},
		{"too many edges ahead of loops", api.Graph{N: 2, Edges: make([][2]int, api.MaxEdges+1)}, fault(api.ErrMany, 0)},
		{"N ahead of an edge", of(-1, 0, 0), fault(api.ErrMany, 0)},
		{"second node N", of(2, 0, 1, 0, 2), fault(api.ErrRange, 1)},
		{"first node below 0", of(2, -1, 0), fault(api.ErrRange, 0)},
		{"an edge without nodes", of(0, 0, 1), fault(api.ErrRange, 0)},
		{"a loop", of(2, 0, 1, 1, 1), fault(api.ErrLoop, 1)},
		{"a loop alone", of(2, 1, 1), fault(api.ErrLoop, 0)},
		{"a loop beside a ring of three", with(ring(3), 2, 2), fault(api.ErrLoop, 3)},
		{"twice, the other way round", of(3, 0, 1, 1, 2, 1, 0), fault(api.ErrTwice, 2)},
		{"twice, an edge alone", of(3, 0, 1, 0, 1), fault(api.ErrTwice, 1)},
		{"twice, with more nodes than Count takes", with(path(25), 0, 1), fault(api.ErrTwice, 24)},
		{"range ahead of loop", of(2, 2, 2), fault(api.ErrRange, 0)},
		{"an earlier loop ahead of range", of(3, 0, 1, 1, 1, 0, 9), fault(api.ErrLoop, 1)},
		{"an earlier twice ahead of loop", of(3, 0, 1, 1, 0, 2, 2), fault(api.ErrTwice, 1)},
		{"the last edge of MaxEdges", last, fault(api.ErrTwice, api.MaxEdges-1)},
	}
}

func TestAllTellFirstWhatCheckSays(t *testing.T) {
	for _, x := range faultyGraphs() {
		for _, c := range calls() {
			got, f := c.ask(x.g)
			wantFault(t, c.name+", "+x.name, got, f, x.f)
		}
	}
}

// spare is a list with memory behind its length, in which odd things stand.
func spare[T any](l []T, odd T) []T {
	return append(slices.Clone(l), odd, odd)[:len(l)]
}

// spoil writes over all memory of a list, also behind its length.
func spoil[T any](l []T, odd T) {
	for i := range l[:cap(l)] {
		l[:cap(l)][i] = odd
	}
}

func TestListsAreOnlyReadAndAnswersAreNew(t *testing.T) {
	all := append(small(4), scrambled(ring(6)), full(5), petersen(), scrambled(path(7)), star(6), scrambled(grid(3, 4)), of(2, 0, 1, 1, 1))
	all = append(all, beside(star(5), beside(ring(5), ring(4))), beside(star(5), grid(2, 4)), flowers(3, 5, 3))
	for _, was := range all {
		for _, c := range calls() {
			wantNew(t, c, was)
		}
	}
}

func wantNew(t *testing.T, c call, was api.Graph) {
	t.Helper()
	g := api.Graph{N: was.N, Edges: spare(was.Edges, [2]int{-7, -7})}
	first, f := c.ask(g)
	second, again := c.ask(g)
	told := fmt.Sprint(first, f)
	wantApart(t, c, first)
	third, _ := c.ask(g)
	if fmt.Sprint(second, again) != told || fmt.Sprint(third, f) != told {
		t.Errorf("%s of %v: %s, then %v, then %v", c.name, was, told, second, third)
	}
	if g.N != was.N || !slices.Equal(g.Edges[:len(was.Edges)+2], append(slices.Clone(was.Edges), [2]int{-7, -7}, [2]int{-7, -7})) {
		t.Errorf("%s changed %v to %v", c.name, was, g)
	}
}

// wantApart writes over one list of an answer after the other, and looks whether the lists behind it stay.
func wantApart(t *testing.T, c call, got answer) {
	t.Helper()
	spoil(got.pairs, [2]int{-9, -9})
	lists := [][]int{got.first, got.second, got.third}
	for i, l := range lists {
		told := fmt.Sprint(lists[i+1:])
		spoil(l, -9)
		if fmt.Sprint(lists[i+1:]) != told {
			t.Errorf("%s: list %d shares memory with %s", c.name, i, told)
		}
	}
}

func TestListsWithoutElementsAreTheSame(t *testing.T) {
	for _, n := range []int{-1, 0, 1, 2, 3, 2 * api.MaxSmall, 2*api.MaxSmall + 1, api.MaxNodes, api.MaxNodes + 1} {
		for _, c := range calls() {
			one, f := c.ask(api.Graph{N: n})
			two, again := c.ask(api.Graph{N: n, Edges: [][2]int{}})
			if fmt.Sprint(one, f) != fmt.Sprint(two, again) {
				t.Errorf("%s of %d nodes: %v %v, then %v %v", c.name, n, one, f, two, again)
			}
		}
	}
}

// numbers at which arithmetic and limits give way.
func numbers() []int {
	return []int{math.MinInt, math.MinInt + 1, -1, 0, 1, 2, 3, 2 * api.MaxSmall, 2*api.MaxSmall + 1, 31, 32, 33, 63, 64, 65, api.MaxNodes - 1, api.MaxNodes, api.MaxNodes + 1, math.MaxInt - 1, math.MaxInt}
}

func TestNoCallPanicsAndAnswersHangOnArgumentsAlone(t *testing.T) {
	all := append(great(), api.Graph{N: 3, Edges: make([][2]int, 100000)})
	for _, n := range numbers() {
		all = append(all, of(n))
		for _, u := range numbers() {
			for _, v := range numbers() {
				all = append(all, of(n, u, v), of(n, 0, 1, u, v))
			}
		}
	}
	for _, g := range all {
		if first, second := tellAll(g), tellAll(g); first != second {
			t.Errorf("%v: %s, then %s", g, first, second)
		}
	}
}

// tellAll tells what all calls answer of g.
func tellAll(g api.Graph) string {
	out := ""
	for _, c := range calls() {
		out += fmt.Sprint(c.ask(g))
	}
	return out
}
