package parts_test

import (
	"fmt"
	"math"
	"slices"
	"testing"

	"arbor/api"
	"arbor/parts"
)

// wantApart writes over all memory of each list, also behind its length, and looks whether another one changes.
func wantApart[T comparable](t *testing.T, what string, spoilt T, lists ...[]T) {
	t.Helper()
	var was [][]T
	for _, l := range lists {
		was = append(was, slices.Clone(l))
	}
	for i, l := range lists {
		for j := range l[:cap(l)] {
			l[:cap(l)][j] = spoilt
		}
		for j, other := range lists {
			if j != i && !slices.Equal(other, was[j]) {
				t.Errorf("%s: lists %d and %d of %v share memory", what, i, j, was)
			}
		}
		copy(l, was[i])
	}
}

// spare is g with memory behind its edges' length, in which no edge stands.
func spare(g api.Graph) api.Graph {
	room := append(slices.Clone(g.Edges), [2]int{-7, -7}, [2]int{-7, -7})
	return api.Graph{N: g.N, Edges: room[:len(g.Edges)]}
}

func TestGraphsAreOnlyRead(t *testing.T) {
	for _, was := range append(small(4), scrambled(bow()), scrambled(ring(6)), of(2, 0, 1, 1, 1)) {
		g := spare(was)
		for _, c := range calls() {
			first, f := c.ask(g)
			second, again := c.ask(g)
			if fmt.Sprint(first, f) != fmt.Sprint(second, again) {
				t.Errorf("%s of %v: %v, then %v", c.name, was, first, second)
			}
			if g.N != was.N || !slices.Equal(g.Edges[:len(was.Edges)+2], spare(was).Edges[:len(was.Edges)+2]) {
				t.Errorf("%s changed %v to %v", c.name, was, g)
			}
		}
	}
}

func TestAnswersAreNewMemory(t *testing.T) {
	for _, was := range append(small(4), scrambled(bow()), ring(6), beside(bow(), path(9))) {
		g := spare(was)
		before := fmt.Sprint(tellAll(g))
		a, _ := parts.Components(g)
		wantApart(t, "Components", -9, a...)
		b, _ := parts.Blocks(g)
		wantApart(t, "Blocks", [2]int{-9, -9}, append(b, g.Edges)...)
		c, _ := parts.Bridges(g)
		wantApart(t, "Bridges", [2]int{-9, -9}, c, g.Edges)
		d, _ := parts.Cuts(g)
		clear(d[:cap(d)])
		s, odd, _ := parts.Sides(g)
		wantApart(t, "Sides", -9, s, odd)
		g = spare(was)
		if after := fmt.Sprint(tellAll(g)); after != before {
			t.Errorf("%v: %s, behind answers that were written over: %s", was, before, after)
		}
	}
}

// tellAll tells what all calls answer of g.
func tellAll(g api.Graph) string {
	out := ""
	for _, c := range calls() {
		out += fmt.Sprint(c.ask(g))
	}
	return out + fmt.Sprint(parts.Strong(g.N, g.Edges))
}

// odd has numbers at which arithmetic and limits give way.
func odd() []int {
	return []int{math.MinInt, math.MinInt + 1, -1, 0, 1, 2, api.MaxNodes - 1, api.MaxNodes, api.MaxNodes + 1, math.MaxInt - 1, math.MaxInt}
}

func TestNoCallPanicsAndAnswersHangOnArgumentsAlone(t *testing.T) {
	all := []api.Graph{{N: 3, Edges: make([][2]int, 100000)}}
	for _, n := range odd() {
		all = append(all, of(n))
		for _, u := range odd() {
			for _, v := range odd() {
				all = append(all, of(n, u, v), of(n, 0, 1, u, v))
			}
		}
	}
	all = append(all, medium()...)
	for _, g := range all {
		if first, second := tellAll(g), tellAll(g); first != second {
			t.Errorf("%v: %s, then %s", g, first, second)
		}
	}
}
