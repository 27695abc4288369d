package graph_test

import (
	"fmt"
	"math"
	"slices"
	"testing"

	"arbor/api"
	"arbor/graph"
)

// spare is g with memory behind its edges' length, in which no edge stands.
func spare(g api.Graph) api.Graph {
	room := append(slices.Clone(g.Edges), [2]int{-7, -7}, [2]int{-7, -7})
	return api.Graph{N: g.N, Edges: room[:len(g.Edges)]}
}

// wantKept: all of the memory of a graph that was handed in is as spare made it.
func wantKept(t *testing.T, what string, g, was api.Graph) {
	t.Helper()
	whole := spare(was).Edges
	if g.N != was.N || !slices.Equal(g.Edges[:len(was.Edges)+2], whole[:len(was.Edges)+2]) {
		t.Errorf("%s: an argument was changed: %v, was %v", what, g, was)
	}
}

// spoil writes over all of an answer's memory.
func spoil(g api.Graph) {
	all := g.Edges[:cap(g.Edges)]
	for i := range all {
		all[i] = [2]int{-9, -9}
	}
}

func TestArgumentsAreOnlyReadAndAnswersAreNew(t *testing.T) {
	for _, was := range append(small(3), scrambled(ring(6)), full(5)) {
		for _, c := range ones() {
			g := spare(was)
			out, _ := c.call(g)
			again, _ := c.call(g)
			keep := api.Graph{N: again.N, Edges: slices.Clone(again.Edges)}
			spoil(out)
			wantKept(t, c.name, g, was)
			wantGraph(t, c.name+", asked twice", again, api.Fault{}, keep)
		}
		for _, c := range twos() {
			a, b := spare(was), spare(ring(3))
			out, _ := c.call(a, b)
			spoil(out)
			wantKept(t, c.name+", a", a, was)
			wantKept(t, c.name+", b", b, ring(3))
		}
	}
}

func TestNamesAreOnlyRead(t *testing.T) {
	room := []int{4, 0, 2, -7, -7}
	out, f := graph.Induced(ring(5), room[:3])
	spoil(out)
	if f != (api.Fault{}) || !slices.Equal(room, []int{4, 0, 2, -7, -7}) {
		t.Errorf("Induced: names %v, %v", room, f)
	}
}

func TestNearIsNewMemory(t *testing.T) {
	g := spare(ring(5))
	first, _ := graph.Near(g, 0)
	second, _ := graph.Near(g, 0)
	for i := range first {
		first[i] = -9
	}
	wantKept(t, "Near", g, ring(5))
	if !slices.Equal(second, []int{1, 4}) {
		t.Errorf("Near asked twice: %v", second)
	}
}

// odd has numbers at which arithmetic and limits give way.
func odd() []int {
	return []int{math.MinInt, math.MinInt + 1, -1, 0, 1, 2, api.MaxNodes - 1, api.MaxNodes, api.MaxNodes + 1, math.MaxInt - 1, math.MaxInt}
}

// oddGraphs has graphs of odd numbers, most of them wrong.
func oddGraphs() []api.Graph {
	var out []api.Graph
	for _, n := range odd() {
		out = append(out, of(n))
		for _, u := range odd() {
			for _, v := range odd() {
				out = append(out, of(n, u, v), of(n, 0, 1, u, v))
			}
		}
	}
	return append(out, api.Graph{N: 3, Edges: make([][2]int, 100000)})
}

func TestNoCallPanicsAndAnswersHangOnArgumentsAlone(t *testing.T) {
	for _, g := range oddGraphs() {
		if first, second := tellAll(g), tellAll(g); first != second {
			t.Errorf("%v: %s, then %s", g, first, second)
		}
	}
}

// tellAll tells what all calls answer of g.
func tellAll(g api.Graph) string {
	out := fmt.Sprint(graph.Check(g))
	for _, c := range ones() {
		out += fmt.Sprint(c.call(g))
	}
	for _, v := range []int{math.MinInt, -1, 0, 1, math.MaxInt} {
		out += fmt.Sprint(graph.Near(g, v))
		out += fmt.Sprint(graph.Induced(g, []int{0, v}))
	}
	for _, h := range []api.Graph{{}, ring(3), of(math.MinInt), of(math.MaxInt, 0, math.MaxInt)} {
		for _, c := range twos() {
			out += fmt.Sprint(c.call(g, h))
			out += fmt.Sprint(c.call(h, g))
		}
	}
	return out
}
