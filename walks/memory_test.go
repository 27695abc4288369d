package walks_test

import (
	"fmt"
	"math"
	"slices"
	"testing"

	"arbor/api"
)

type faulty struct {
	name string
	g    api.Graph
	f    api.Fault
}

func faultyGraphs() []faulty {
	last := some(api.MaxNodes, api.MaxEdges)
	last.Edges[api.MaxEdges-1] = [2]int{1, 0}
	return []faulty{
		{"N below 0", of(-1), fault(api.ErrMany, 0)},
		{"N the least", of(math.MinInt), fault(api.ErrMany, 0)},
		{"a node too many", of(api.MaxNodes + 1), fault(api.ErrMany, 0)},
		{"N the greatest", of(math.MaxInt), fault(api.ErrMany, 0)},
		{"an edge too many", some(api.MaxNodes, api.MaxEdges+1), fault(api.ErrMany, 0)},
		{"too many edges ahead of loops", api.Graph{N: 2, Edges: make([][2]int, api.MaxEdges+1)}, fault(api.ErrMany, 0)},
		{"N ahead of an edge", of(-1, 0, 0), fault(api.ErrMany, 0)},
		{"second node N", of(2, 0, 1, 0, 2), fault(api.ErrRange, 1)},
		{"first node below 0", of(2, -1, 0), fault(api.ErrRange, 0)},
		{"an edge without nodes", of(0, 0, 1), fault(api.ErrRange, 0)},
		{"a loop", of(2, 0, 1, 1, 1), fault(api.ErrLoop, 1)},
		{"twice, the other way round", of(3, 0, 1, 1, 2, 1, 0), fault(api.ErrTwice, 2)},
		{"range ahead of loop", of(2, 2, 2), fault(api.ErrRange, 0)},
		{"an earlier loop ahead of range", of(3, 0, 1, 1, 1, 0, 9), fault(api.ErrLoop, 1)},
		{"an earlier twice ahead of loop", of(3, 0, 1, 1, 0, 2, 2), fault(api.ErrTwice, 1)},
		{"the last edge of MaxEdges", last, fault(api.ErrTwice, api.MaxEdges-1)},
	}
}

func TestAllTellFirstWhatCheckSays(t *testing.T) {
	for _, x := range faultyGraphs() {
		for _, c := range calls() {
			for _, v := range numbers() {
				for _, w := range numbers() {
					l, f := c.ask(x.g, v, w)
					wantFault(t, fmt.Sprint(c.name, " with ", v, " and ", w, ", ", x.name), l, f, x.f)
				}
			}
		}
	}
}

// numbers at which arithmetic and limits give way.
func numbers() []int {
	return []int{math.MinInt, math.MinInt + 1, -1, 0, 1, 2, 16, 17, api.MaxNodes - 1, api.MaxNodes, api.MaxNodes + 1, math.MaxInt - 1, math.MaxInt}
}

// spare is g with memory behind its edges' length, in which no edge stands.
func spare(g api.Graph) api.Graph {
	room := append(slices.Clone(g.Edges), [2]int{-7, -7}, [2]int{-7, -7})
	return api.Graph{N: g.N, Edges: room[:len(g.Edges)]}
}

func TestGraphsAreOnlyReadAndAnswersAreNew(t *testing.T) {
	for _, was := range append(small(4), scrambled(ring(6)), full(5), petersen(), of(2, 0, 1, 1, 1)) {
		g := spare(was)
		for _, c := range calls() {
			first, f := c.ask(g, 0, 1)
			second, again := c.ask(g, 0, 1)
			told := fmt.Sprint(first, f)
			for i := range first[:cap(first)] {
				first[:cap(first)][i] = -9
			}
			third, _ := c.ask(g, 0, 1)
			if fmt.Sprint(second, again) != told || fmt.Sprint(third, f) != told {
				t.Errorf("%s of %v: %s, then %v, then %v", c.name, was, told, second, third)
			}
			if g.N != was.N || !slices.Equal(g.Edges[:len(was.Edges)+2], spare(was).Edges[:len(was.Edges)+2]) {
				t.Errorf("%s changed %v to %v", c.name, was, g)
			}
		}
	}
}

func TestListsWithoutElementsAreTheSame(t *testing.T) {
	for _, n := range []int{-1, 0, 1, 3, api.MaxNodes + 1} {
		for _, c := range calls() {
			one, f := c.ask(api.Graph{N: n}, 0, 0)
			two, again := c.ask(api.Graph{N: n, Edges: [][2]int{}}, 0, 0)
			if fmt.Sprint(one, f) != fmt.Sprint(two, again) {
				t.Errorf("%s of %d nodes: %v %v, then %v %v", c.name, n, one, f, two, again)
			}
		}
	}
}

func TestNoCallPanicsAndAnswersHangOnArgumentsAlone(t *testing.T) {
	all := []api.Graph{{N: 3, Edges: make([][2]int, 100000)}}
	for _, n := range numbers() {
		all = append(all, of(n))
		for _, u := range numbers() {
			for _, v := range numbers() {
				all = append(all, of(n, u, v), of(n, 0, 1, u, v))
			}
		}
	}
	for _, g := range all {
		if first, second := tellAll(g), tellAll(g); first != second {
			t.Errorf("%v: %s, then %s", g, first, second)
		}
	}
}

// tellAll tells what all calls answer of g.
func tellAll(g api.Graph) string {
	out := ""
	for _, c := range calls() {
		for _, v := range []int{math.MinInt, -1, 0, 1, math.MaxInt} {
			out += fmt.Sprint(c.ask(g, v, 1))
			out += fmt.Sprint(c.ask(g, 0, v))
		}
	}
	return out
}
