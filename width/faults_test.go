package width_test

import (
	"fmt"
	"math"
	"slices"
	"testing"

	"arbor/api"
)

// wantFault: a fault, and beside it nothing.
func wantFault(t *testing.T, name string, c call, q question, want api.Fault) {
	t.Helper()
	if got, f := c.ask(q); f != want || !got.isEmpty() {
		t.Errorf("%s of %s: %v %v, want nothing and %v", c.name, name, got, f, want)
	}
	if f := c.fault(q); f != want {
		t.Errorf("the second account of %s of %s is %v, want %v", c.name, name, f, want)
	}
}

// askAs finds a call by its name.
func askAs(name string) call {
	all := calls()
	return all[slices.IndexFunc(all, func(c call) bool { return c.name == name })]
}

func TestFaultsOfGraphs(t *testing.T) {
	for _, w := range []struct {
		name string
		g    api.Graph
		want api.Fault
	}{
		{"fewer nodes than none", of(-1), fault(api.ErrMany, 0)},
		{"one node too many", of(api.MaxNodes + 1), fault(api.ErrMany, 0)},
		{"one edge too many", some(api.MaxNodes, api.MaxEdges+1), fault(api.ErrMany, 0)},
		{"one edge too many, and it is wrong", with(some(api.MaxNodes, api.MaxEdges), 0, 0), fault(api.ErrMany, 0)},
		{"no node", of(3, 0, 1, 1, 3), fault(api.ErrRange, 1)},
		{"no node, of none", of(0, 0, 1), fault(api.ErrRange, 0)},
		{"below 0", of(3, 0, 1, 1, 2, -1, 2), fault(api.ErrRange, 2)},
		{"a loop", of(3, 0, 1, 2, 2), fault(api.ErrLoop, 1)},
		{"twice", of(3, 0, 1, 1, 2, 0, 1), fault(api.ErrTwice, 2)},
		{"twice, the other way round", of(3, 0, 1, 1, 0), fault(api.ErrTwice, 1)},
		{"the first of two", of(3, 0, 1, 2, 2, 0, 1, 0, 7), fault(api.ErrLoop, 1)},
		{"wrong, and many nodes", with(ring(99), 3, 3), fault(api.ErrLoop, 99)},
	} {
		for _, c := range calls() {
			for _, over := range []tree{{}, {up: []int{3}}, inARow([]int{0, 0}), inARow([]int{-1}), inARow(make([][]int, 101)...), inARow(upTo(100))} {
				wantFault(t, w.name, c, question{w.g, []int{math.MaxInt}, over}, w.want)
			}
		}
	}
}

func TestFaultsOfBags(t *testing.T) {
	for _, w := range []struct {
		name string
		g    api.Graph
		bags [][]int
		up   []int
		want api.Fault
	}{
		{"one bag too many", of(0), make([][]int, 101), make([]int, 101), fault(api.ErrMany, 0)},
		{"many bags", of(3), make([][]int, 100000), nil, fault(api.ErrMany, 0)},
		{"many ahead of size", of(3), make([][]int, 101), []int{-1}, fault(api.ErrMany, 0)},
		{"many ahead of what is in a bag", of(3), slices.Repeat([][]int{{7, 7}}, 101), make([]int, 101), fault(api.ErrMany, 0)},
		{"as many as may be, and one more above them", of(0), make([][]int, 100), make([]int, 101), fault(api.ErrSize, 0)},
		{"nothing above", of(1), [][]int{{0}}, nil, fault(api.ErrSize, 0)},
		{"no bag", of(0), nil, []int{-1}, fault(api.ErrSize, 0)},
		{"one more above", of(1), [][]int{{0}}, []int{-1, 0}, fault(api.ErrSize, 0)},
		{"one fewer above", of(1), [][]int{{0}, {0}}, []int{-1}, fault(api.ErrSize, 0)},
		{"many above", of(1), [][]int{{0}}, make([]int, 100000), fault(api.ErrSize, 0)},
		{"size ahead of range", of(1), [][]int{{1}}, nil, fault(api.ErrSize, 0)},
		{"size ahead of twice", of(1), [][]int{{0, 0}}, []int{-1, -1}, fault(api.ErrSize, 0)},
		{"no node", of(3), [][]int{{0, 3}}, []int{-1}, fault(api.ErrRange, 0)},
		{"no node, of none", of(0), [][]int{{}, {0}}, []int{-1, 0}, fault(api.ErrRange, 1)},
		{"below 0", of(3), [][]int{{0}, {1}, {-1}}, []int{-1, 0, 1}, fault(api.ErrRange, 2)},
		{"far off", of(3), [][]int{{0}, {math.MaxInt}}, []int{-1, 0}, fault(api.ErrRange, 1)},
		{"far below", of(3), [][]int{{math.MinInt}}, []int{-1}, fault(api.ErrRange, 0)},
		{"the next number at the limits", of(100), [][]int{{99}, {100}}, []int{-1, 0}, fault(api.ErrRange, 1)},
		{"twice", of(3), [][]int{{0, 1, 2}, {0, 1, 0}}, []int{-1, 0}, fault(api.ErrTwice, 1)},
		{"twice, at the limits", of(100), [][]int{append(upTo(100), 99)}, []int{-1}, fault(api.ErrTwice, 0)},
		{"twice ahead of range in one bag", of(3), [][]int{{1}, {2, 2, 3}}, []int{-1, 0}, fault(api.ErrTwice, 1)},
		{"range ahead of twice in one bag", of(3), [][]int{{1}, {2, 3, 2}}, []int{-1, 0}, fault(api.ErrRange, 1)},
		{"what is no node, twice", of(3), [][]int{{5, 5}}, []int{-1}, fault(api.ErrRange, 0)},
		{"twice in a bag, range in a later one", of(3), [][]int{{1, 1}, {3}}, []int{-1, 0}, fault(api.ErrTwice, 0)},
		{"range in a bag, twice in a later one", of(3), [][]int{{3}, {1, 1}}, []int{-1, 0}, fault(api.ErrRange, 0)},
		{"the last of a hundred bags", of(3), append(make([][]int, 99), []int{1, 1}), make([]int, 100), fault(api.ErrTwice, 99)},
		{"ahead of what is no tree", of(3), [][]int{{0, 1}, {1, 1}}, []int{7, -9}, fault(api.ErrTwice, 1)},
		{"a very long bag", of(3), [][]int{make([]int, 100000)}, []int{-1}, fault(api.ErrTwice, 0)},
	} {
		for _, name := range []string{"Fits", "Heaviest"} {
			for _, weights := range [][]int{nil, make([]int, w.g.N), same(w.g.N, math.MaxInt), make([]int, w.g.N+1)} {
				wantFault(t, w.name, askAs(name), question{w.g, weights, tree{w.bags, w.up}}, w.want)
			}
		}
	}
}

func TestFaultsOfHeaviest(t *testing.T) {
	most := api.MaxValue
	small, bent := inARow([]int{0, 1}, []int{1, 2}), tree{[][]int{{0, 1}, {1, 2}}, []int{1, 0}}
	wide := inARow(upTo(12), upTo(13), upTo(14))
	for _, w := range []struct {
		name    string
		g       api.Graph
		weights []int
		over    tree
		want    api.Fault
	}{
		{"no weights", path(3), nil, small, fault(api.ErrSize, 1)},
		{"a weight too few", path(3), same(2, 1), small, fault(api.ErrSize, 1)},
		{"a weight too many", path(3), same(4, 1), small, fault(api.ErrSize, 1)},
		{"a weight of no nodes", of(0), []int{1}, tree{}, fault(api.ErrSize, 1)},
		{"many weights", path(3), make([]int, 100000), small, fault(api.ErrSize, 1)},
		{"size ahead of range", path(3), same(4, math.MaxInt), small, fault(api.ErrSize, 1)},
		{"size ahead of form", path(3), same(2, 1), bent, fault(api.ErrSize, 1)},
		{"size ahead of many", of(14), same(13, 1), wide, fault(api.ErrSize, 1)},
		{"above", path(3), []int{0, most + 1, 0}, small, fault(api.ErrRange, 1)},
		{"below", path(3), []int{0, most, -most - 1}, small, fault(api.ErrRange, 2)},
		{"far above", path(3), []int{math.MaxInt, 0, 0}, small, fault(api.ErrRange, 0)},
		{"far below", path(3), []int{most, -most, math.MinInt}, small, fault(api.ErrRange, 2)},
		{"the first of two", path(3), []int{0, -most - 1, most + 1}, small, fault(api.ErrRange, 1)},
		{"range ahead of form", path(3), []int{0, 0, most + 1}, bent, fault(api.ErrRange, 2)},
		{"range ahead of many", of(14), append(same(13, 1), most+1), wide, fault(api.ErrRange, 13)},
		{"no tree", path(3), same(3, 1), bent, fault(api.ErrForm, 0)},
		{"no bags", of(1), same(1, 1), tree{}, fault(api.ErrForm, 0)},
		{"a node left out", of(4), same(4, 1), small, fault(api.ErrForm, 0)},
		{"an edge left out", ring(3), same(3, 1), small, fault(api.ErrForm, 0)},
		{"a gap", of(3), same(3, 1), inARow([]int{0, 1}, []int{2}, []int{1}), fault(api.ErrForm, 0)},
		{"form ahead of many", of(15), same(15, 1), wide, fault(api.ErrForm, 0)},
		{"form ahead of many at a later root", of(13), same(13, 1), tree{[][]int{upTo(13), nil}, []int{-1, -1}}, fault(api.ErrForm, 0)},
		{"a bag too wide", of(13), same(13, 1), inARow(upTo(13)), fault(api.ErrMany, 0)},
		{"the first of two bags too wide", of(14), same(14, 1), wide, fault(api.ErrMany, 1)},
		{"the first of two bags too wide, turned", of(14), same(14, 1), tree{[][]int{upTo(2), upTo(3), upTo(14), upTo(13)}, []int{1, 2, 3, -1}}, fault(api.ErrMany, 2)},
		{"the last of a hundred bags", of(13), same(13, 1), inARow(append(slices.Repeat([][]int{upTo(12)}, 99), upTo(13))...), fault(api.ErrMany, 99)},
		{"all in one bag", some(100, 1000), same(100, 1), inARow(upTo(100)), fault(api.ErrMany, 0)},
	} {
		wantFault(t, w.name, askAs("Heaviest"), question{w.g, w.weights, w.over}, w.want)
	}
	wantHeaviest(t, "the limits", path(3), []int{most, -most, most}, small, 2*most)
	wantHeaviest(t, "as wide as may be", of(12), same(12, 1), inARow(upTo(12)), 12)
}

// All that can be wrong, each with each: what is told is the first of it.
func TestFaultsInTheirOrder(t *testing.T) {
	graphs := []api.Graph{of(-1), of(3, 0, 1, 1, 1), path(3), ring(3), of(14), path(14), of(0)}
	bags := [][][]int{nil, {nil}, {{0, 1}, {1, 2}}, {{0, 1, 2}}, {{0, 1, 2}, {3}}, {{2, 2}, {14}}, {{0}, {14, 0, 0}}, {upTo(14)}, {upTo(12), upTo(14)}, make([][]int, 100), make([][]int, 101)}
	ups := [][]int{nil, {-1}, {-1, 0}, {1, -1}, {1, 0}, {-1, -1}, {0, 7}, make([]int, 100), append([]int{-1}, make([]int, 99)...), make([]int, 101)}
	weights := [][]int{nil, same(3, 1), {0, api.MaxValue + 1, math.MinInt}, same(14, 1), same(14, math.MaxInt)}
	seen := map[string]int{}
	for _, g := range graphs {
		for _, bag := range bags {
			for _, up := range ups {
				for _, weight := range weights {
					q := question{g, weight, tree{bag, up}}
					for _, c := range calls() {
						want := c.fault(q)
						seen[fmt.Sprint(c.name, want)]++
						got, f := c.ask(q)
						if f != want || f != (api.Fault{}) && !got.isEmpty() {
							t.Errorf("%s of %v: %v %v, want %v", c.name, q, got, f, want)
						}
					}
				}
			}
		}
	}
	for _, code := range []int{api.ErrMany, api.ErrSize, api.ErrRange, api.ErrTwice, api.ErrForm} {
		if seen[fmt.Sprint("Heaviest", fault(code, 0))]+seen[fmt.Sprint("Heaviest", fault(code, 1))] == 0 {
			t.Errorf("code %d did not come up", code)
		}
	}
}
