package flow_test

import (
	"fmt"
	"math"
	"slices"
	"testing"

	"arbor/api"
	"arbor/flow"
)

type badEnds struct {
	name  string
	nodes int
	s, t  int
	f     api.Fault
}

func faultyEnds() []badEnds {
	return []badEnds{
		{"s below 0", 3, -1, 1, fault(api.ErrRange, 0)},
		{"s is N", 3, 3, 1, fault(api.ErrRange, 0)},
		{"s the greatest", 3, math.MaxInt, 1, fault(api.ErrRange, 0)},
		{"t below 0", 3, 1, -1, fault(api.ErrRange, 1)},
		{"t is N", 3, 0, 3, fault(api.ErrRange, 1)},
		{"t the least", 3, 0, math.MinInt, fault(api.ErrRange, 1)},
		{"both are none", 3, -1, 3, fault(api.ErrRange, 0)},
		{"both are none, and one", 3, 3, 3, fault(api.ErrRange, 0)},
		{"one", 3, 1, 1, fault(api.ErrTwice, 1)},
		{"one, 0", 3, 0, 0, fault(api.ErrTwice, 1)},
		{"one, the last of MaxNodes", api.MaxNodes, 99, 99, fault(api.ErrTwice, 1)},
		{"t is MaxNodes", api.MaxNodes, 99, 100, fault(api.ErrRange, 1)},
		{"a node alone", 1, 0, 0, fault(api.ErrTwice, 1)},
		{"no node", 0, 0, 0, fault(api.ErrRange, 0)},
		{"no node, two asked for", 0, 0, 1, fault(api.ErrRange, 0)},
	}
}

type faultyGraph struct {
	name string
	g    api.Graph
	f    api.Fault
}

func faultyGraphs() []faultyGraph {
	last := some(api.MaxNodes, api.MaxEdges)
	last.Edges[api.MaxEdges-1] = [2]int{1, 0}
	return []faultyGraph{
		{"N below 0", of(-1), fault(api.ErrMany, 0)},
		{"N the least", of(math.MinInt), fault(api.ErrMany, 0)},
		{"a node too many", path(api.MaxNodes + 1), fault(api.ErrMany, 0)},
		{"an edge too many", some(api.MaxNodes, api.MaxEdges+1), fault(api.ErrMany, 0)},
		{"too many edges ahead of loops", api.Graph{N: 2, Edges: make([][2]int, api.MaxEdges+1)}, fault(api.ErrMany, 0)},
		{"N ahead of an edge", of(-1, 0, 0), fault(api.ErrMany, 0)},
		{"second node N", of(2, 0, 1, 0, 2), fault(api.ErrRange, 1)},
		{"first node below 0", of(2, -1, 0), fault(api.ErrRange, 0)},
		{"an edge without nodes", of(0, 0, 1), fault(api.ErrRange, 0)},
		{"a loop", of(2, 0, 1, 1, 1), fault(api.ErrLoop, 1)},
		{"twice, the other way round", of(3, 0, 1, 1, 2, 1, 0), fault(api.ErrTwice, 2)},
		{"an earlier loop ahead of range", of(3, 0, 1, 1, 1, 0, 9), fault(api.ErrLoop, 1)},
		{"the last edge of MaxEdges", last, fault(api.ErrTwice, api.MaxEdges-1)},
	}
}

func TestFaultsOfWays(t *testing.T) {
	for _, c := range []call{askApart(), askBeside()} {
		for _, x := range faultyGraphs() {
			for _, ends := range [][2]int{{0, 1}, {0, 0}, {-1, 0}, {0, math.MaxInt}} {
				got, f := c.ask(question{g: x.g, s: ends[0], t: ends[1]})
				wantFault(t, c.name+", "+x.name, got, f, x.f)
			}
		}
		for _, x := range faultyEnds() {
			for _, g := range []api.Graph{of(x.nodes), path(x.nodes), scrambled(star(x.nodes))} {
				got, f := c.ask(question{g: g, s: x.s, t: x.t})
				wantFault(t, c.name+", "+x.name, got, f, x.f)
			}
		}
	}
}

// wantWays: walks of g from one node to another in each of which no node stands twice.
func wantWays(t *testing.T, what string, g api.Graph, from, to int, ways [][]int) {
	t.Helper()
	for _, way := range ways {
		if len(way) < 2 || way[0] != from || way[len(way)-1] != to {
			t.Fatalf("%s: %v does not lead from %d to %d", what, way, from, to)
		}
		for i, v := range way {
			if slices.Contains(way[:i], v) || i > 0 && !has(g, way[i-1], v) {
				t.Errorf("%s: %v is no way", what, way)
			}
		}
	}
}

// wantApart: ways of which no two share an edge, and a cut that shows that there are no more. It answers how many.
func wantApart(t *testing.T, g api.Graph, from, to int) int {
	t.Helper()
	what := fmt.Sprint("Apart of ", g, " from ", from, " to ", to)
	ways, cut, f := flow.Apart(g, from, to)
	if f != (api.Fault{}) || len(ways) != len(cut) {
		t.Fatalf("%s: %v %v %v", what, ways, cut, f)
	}
	wantWays(t, what, g, from, to, ways)
	used := map[[2]int]bool{}
	for _, way := range ways {
		for i := 1; i < len(way); i++ {
			e := [2]int{min(way[i-1], way[i]), max(way[i-1], way[i])}
			if used[e] {
				t.Errorf("%s: two of %v share %v", what, ways, e)
			}
			used[e] = true
		}
	}
	for i, e := range cut {
		if e[0] >= e[1] || !has(g, e[0], e[1]) || i > 0 && slices.Compare(cut[i-1][:], e[:]) >= 0 {
			t.Errorf("%s: %v are no edges in form", what, cut)
		}
	}
	if leads(g, from, to, cut, nil) {
		t.Errorf("%s: there is a way without %v", what, cut)
	}
	return len(ways)
}

// wantBeside: ways of which no two share another node, and a cut that shows that there are no more. It answers how many.
func wantBeside(t *testing.T, g api.Graph, from, to int) int {
	t.Helper()
	what := fmt.Sprint("Beside of ", g, " from ", from, " to ", to)
	ways, cut, f := flow.Beside(g, from, to)
	if f != (api.Fault{}) || len(ways) != len(cut) {
		t.Fatalf("%s: %v %v %v", what, ways, cut, f)
	}
	wantWays(t, what, g, from, to, ways)
	used := map[int]bool{}
	for _, way := range ways {
		for _, v := range way[1 : len(way)-1] {
			if used[v] {
				t.Errorf("%s: two of %v share %d", what, ways, v)
			}
			used[v] = true
		}
	}
	wantNodes(t, what, g.N, cut)
	if slices.Contains(cut, from) || slices.Contains(cut, to) || leads(g, from, to, nil, cut) {
		t.Errorf("%s: there is a way without %v, or one end is in it", what, cut)
	}
	return len(ways)
}

// wantBoth asks both calls; with an edge from one end to the other Beside answers a fault.
func wantBoth(t *testing.T, g api.Graph, from, to int) {
	t.Helper()
	apart := wantApart(t, g, from, to)
	if has(g, from, to) {
		got, f := askBeside().ask(question{g: g, s: from, t: to})
		wantFault(t, fmt.Sprint("Beside of ", g, " with an edge ", from, "-", to), got, f, fault(api.ErrKind, 0))
		return
	}
	if beside := wantBeside(t, g, from, to); beside > apart {
		t.Errorf("%v from %d to %d: %d ways share no node, only %d no edge", g, from, to, beside, apart)
	}
}

func TestWaysByHand(t *testing.T) {
	twoRings := of(7, 0, 1, 1, 2, 2, 3, 3, 0, 2, 4, 4, 5, 5, 6, 6, 2)
	// the shortest way goes 0-5-1-3-6-15; the next one may come to 6, and go on to 5 by 2-4 as well as back by 3-1: then what goes, goes round
	round := of(16, 0, 5, 5, 1, 1, 3, 3, 6, 6, 15, 6, 2, 2, 4, 4, 5, 5, 7, 7, 8, 8, 9, 9, 10, 10, 15, 0, 11, 11, 12, 12, 13, 13, 14, 14, 6)
	for _, x := range []struct {
		name          string
		g             api.Graph
		from, to      int
		apart, beside int // beside: -1: there is an edge
	}{
		{"the chapter's example", ring(4), 0, 2, 2, 2},
		{"a ring, the other two", ring(4), 3, 1, 2, 2},
		{"neighbours on a ring", ring(4), 0, 1, 2, -1},
		{"no edges", of(2), 0, 1, 0, 0},
		{"no way", nextTo(ring(3), ring(3)), 0, 4, 0, 0},
		{"an edge", of(2, 1, 0), 0, 1, 1, -1},
		{"a path", path(5), 4, 0, 1, 1},
		{"from leaf to leaf", star(4), 1, 3, 1, 1},
		{"from the middle to a leaf", star(4), 0, 3, 1, -1},
		{"two rings at a node", twoRings, 0, 5, 2, 1},
		{"Petersen's graph", petersen(), 0, 7, 3, 3},
		{"all edges of six", full(6), 5, 2, 5, -1},
		{"all edges of six but one", api.Graph{N: 6, Edges: full(6).Edges[1:]}, 0, 1, 4, 4},
		{"two of three on two sides", twoSides(3, 5), 0, 2, 5, 5},
		{"two of five on two sides", twoSides(3, 5), 7, 3, 3, 3},
		{"the corners of a grid", grid(4, 5), 0, 19, 2, 2},
		{"a way that must be turned", of(6, 0, 1, 1, 2, 2, 5, 0, 3, 3, 2, 1, 4, 4, 5), 0, 5, 2, 2},
		{"layers", layers(4, 3), 0, 11, 3, 3},
		{"a ring that both ways meet", round, 0, 15, 2, 2},
	} {
		for _, g := range []api.Graph{x.g, scrambled(x.g)} {
			wantBoth(t, g, x.from, x.to)
			if got := wantApart(t, g, x.from, x.to); got != x.apart {
				t.Errorf("Apart, %s: %d ways, want %d", x.name, got, x.apart)
			}
			if x.beside < 0 {
				continue
			}
			if got := wantBeside(t, g, x.from, x.to); got != x.beside {
				t.Errorf("Beside, %s: %d ways, want %d", x.name, got, x.beside)
			}
		}
	}
}

// Where there is but one answer.
func TestWaysAndCuts(t *testing.T) {
	ways, edges, f := flow.Apart(of(4, 3, 2, 1, 0), 2, 3)
	if fmt.Sprint(ways, edges, f) != "[[2 3]] [[2 3]] {0 0}" {
		t.Errorf("Apart along an edge: %v %v %v", ways, edges, f)
	}
	ways, edges, f = flow.Apart(of(8, 5, 4, 3, 4, 4, 2, 2, 3, 6, 5, 7, 5, 6, 7), 2, 6)
	if len(ways) != 1 || fmt.Sprint(edges, f) != "[[4 5]] {0 0}" {
		t.Errorf("Apart across a bridge: %v %v %v", ways, edges, f)
	}
	ways, nodes, f := flow.Beside(path(3), 2, 0)
	if fmt.Sprint(ways, nodes, f) != "[[2 1 0]] [1] {0 0}" {
		t.Errorf("Beside along a path: %v %v %v", ways, nodes, f)
	}
	ways, nodes, f = flow.Beside(ring(4), 0, 2)
	if len(ways) != 2 || fmt.Sprint(nodes, f) != "[1 3] {0 0}" {
		t.Errorf("Beside on a ring: %v %v %v", ways, nodes, f)
	}
	ways, nodes, f = flow.Beside(of(2), 0, 1)
	if len(ways)+len(nodes) != 0 || f != (api.Fault{}) {
		t.Errorf("Beside without a way: %v %v %v", ways, nodes, f)
	}
}

func TestWaysOfAllSmallGraphs(t *testing.T) {
	for n := 2; n <= 6; n++ {
		for _, g := range small(n) {
			wantBoth(t, g, 0, n-1)
			wantBoth(t, scrambled(g), n/2, 0)
		}
	}
}

func TestWaysOfGreaterGraphs(t *testing.T) {
	for _, g := range medium() {
		for v := range g.N {
			wantBoth(t, g, v, (v+1+v%(g.N-1))%g.N)
			wantBoth(t, g, v, (v+g.N-1)%g.N)
		}
	}
	for seed := range 1500 {
		g := mixed(15+seed%30, 12+seed%99, seed)
		wantBoth(t, g, seed%g.N, (seed+5)%g.N)
	}
}

func TestWaysAtTheLimits(t *testing.T) {
	for _, g := range great() {
		wantBoth(t, g, 0, g.N-1)
		wantBoth(t, scrambled(g), g.N/2, 0)
		wantBoth(t, g, g.N-2, g.N/3)
	}
	for _, x := range []struct {
		name     string
		g        api.Graph
		from, to int
		apart    int
		beside   int
	}{
		{"MaxNodes alone", of(api.MaxNodes), 0, 99, 0, 0},
		{"a path", path(api.MaxNodes), 99, 0, 1, 1},
		{"a ring", ring(api.MaxNodes), 0, 50, 2, 2},
		{"through all others", twoSides(2, 98), 0, 1, 98, 98},
		{"through all others, with more edges", with(twoSides(2, 98), 2, 3, 3, 4, 98, 99), 1, 0, 98, 98},
		{"layers", layers(10, 10), 0, 99, 10, 10},
		{"a narrow place", with(nextTo(full(30), full(30)), 29, 30, 28, 30), 0, 59, 2, 1},
	} {
		if got := wantApart(t, x.g, x.from, x.to); got != x.apart {
			t.Errorf("Apart, %s: %d ways, want %d", x.name, got, x.apart)
		}
		if got := wantBeside(t, x.g, x.from, x.to); got != x.beside {
			t.Errorf("Beside, %s: %d ways, want %d", x.name, got, x.beside)
		}
	}
}
