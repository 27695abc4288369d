package flow_test

import (
	"math"
	"slices"
	"testing"

	"arbor/api"
	"arbor/flow"
)

type faultyNet struct {
	name string
	n    api.Net
	f    api.Fault
}

func faultyNets() []faultyNet {
	last := mixedNet(5, api.MaxEdges, 9, 1)
	last.Arcs[api.MaxEdges-1].Cap = api.MaxValue + 1
	return []faultyNet{
		{"N below 0", netOf(-1), fault(api.ErrMany, 0)},
		{"N the least", netOf(math.MinInt), fault(api.ErrMany, 0)},
		{"a node too many", netOf(api.MaxNodes+1, 0, 1, 1), fault(api.ErrMany, 0)},
		{"N the greatest", netOf(math.MaxInt), fault(api.ErrMany, 0)},
		{"an arc too many", mixedNet(5, api.MaxEdges+1, 9, 1), fault(api.ErrMany, 0)},
		{"too many arcs ahead of one that is wrong", api.Net{N: 0, Arcs: make([]api.Arc, api.MaxEdges+1)}, fault(api.ErrMany, 0)},
		{"N ahead of an arc", netOf(-1, 0, 0, -1), fault(api.ErrMany, 0)},
		{"From is N", netOf(2, 0, 1, 1, 2, 0, 1), fault(api.ErrRange, 1)},
		{"From below 0", netOf(2, -1, 0, 1), fault(api.ErrRange, 0)},
		{"To is N", netOf(2, 0, 1, 1, 0, 2, 1), fault(api.ErrRange, 1)},
		{"To below 0", netOf(2, 0, 1, 1, 1, 0, 1, 0, -1, 1), fault(api.ErrRange, 2)},
		{"Cap below 0", netOf(2, 0, 1, 0, 0, 1, -1), fault(api.ErrRange, 1)},
		{"Cap above MaxValue", netOf(2, 0, 1, api.MaxValue, 0, 1, api.MaxValue+1), fault(api.ErrRange, 1)},
		{"Cap the least", netOf(2, 0, 1, math.MinInt), fault(api.ErrRange, 0)},
		{"Cap the greatest, of a node to itself", netOf(2, 1, 1, math.MaxInt), fault(api.ErrRange, 0)},
		{"an arc without nodes", netOf(0, 0, 0, 0), fault(api.ErrRange, 0)},
		{"the first of several", netOf(3, 0, 1, 1, 0, 3, 1, 0, 1, -1, -1, 0, 1), fault(api.ErrRange, 1)},
		{"the last arc of MaxEdges", last, fault(api.ErrRange, api.MaxEdges-1)},
	}
}

func TestCheck(t *testing.T) {
	for _, x := range faultyNets() {
		if f := flow.Check(x.n); f != x.f {
			t.Errorf("Check, %s: %v, want %v", x.name, f, x.f)
		}
	}
	for _, n := range []api.Net{
		netOf(0), netOf(1), netOf(api.MaxNodes), netOf(1, 0, 0, 0), netOf(1, 0, 0, api.MaxValue), netOf(2, 0, 1, 1, 0, 1, 1, 1, 0, 2),
		netOf(api.MaxNodes, api.MaxNodes-1, 0, api.MaxValue, 0, api.MaxNodes-1, 0), mixedNet(api.MaxNodes, api.MaxEdges, api.MaxValue, 3),
	} {
		if f := flow.Check(n); f != (api.Fault{}) {
			t.Errorf("Check of %v: %v", n, f)
		}
	}
}

func TestMostFaults(t *testing.T) {
	for _, x := range faultyNets() {
		for _, ends := range [][2]int{{0, 1}, {0, 0}, {-1, 0}, {0, math.MaxInt}} {
			got, f := askMost().ask(question{n: x.n, s: ends[0], t: ends[1]})
			wantFault(t, "Most, "+x.name, got, f, x.f)
		}
	}
	for _, x := range faultyEnds() {
		got, f := askMost().ask(question{n: netOf(x.nodes), s: x.s, t: x.t})
		wantFault(t, "Most, "+x.name, got, f, x.f)
		if x.nodes > 1 {
			got, f = askMost().ask(question{n: netOf(x.nodes, 0, 1, 4, 1, 0, 3, 1, 1, 2), s: x.s, t: x.t})
			wantFault(t, "Most, with arcs, "+x.name, got, f, x.f)
		}
	}
}

// wantMost: flows that keep to all that is asked of them, and a side that shows that no more can go. It answers the value.
func wantMost(t *testing.T, n api.Net, from, to int) int {
	t.Helper()
	value, flows, side, f := flow.Most(n, from, to)
	if f != (api.Fault{}) || len(flows) != len(n.Arcs) {
		t.Fatalf("Most of %v from %d to %d: %v %v", n, from, to, flows, f)
	}
	more := make([]int, n.N) // how much more goes out than comes in
	for at, arc := range n.Arcs {
		if flows[at] < 0 || flows[at] > arc.Cap {
			t.Errorf("Most of %v from %d to %d: arc %d holds %d", n, from, to, at, flows[at])
		}
		more[arc.From] += flows[at]
		more[arc.To] -= flows[at]
	}
	for v := range more {
		if want := map[int]int{from: value, to: -value}[v]; more[v] != want {
			t.Errorf("Most of %v from %d to %d: at %d %d more goes out than comes in, want %d", n, from, to, v, more[v], want)
		}
	}
	wantNodes(t, "Most", n.N, side)
	if !slices.Contains(side, from) || slices.Contains(side, to) || holdsOut(n, side) != value {
		t.Errorf("Most of %v from %d to %d: %d, which %v does not show", n, from, to, value, side)
	}
	return value
}

// holdsOut answers how much the arcs hold from these nodes to the others.
func holdsOut(n api.Net, side []int) int {
	sum := 0
	for _, arc := range n.Arcs {
		if slices.Contains(side, arc.From) && !slices.Contains(side, arc.To) {
			sum += arc.Cap
		}
	}
	return sum
}

// wantNodes: nodes of n, rising.
func wantNodes(t *testing.T, what string, n int, nodes []int) {
	t.Helper()
	for i, v := range nodes {
		if v < 0 || v >= n || i > 0 && nodes[i-1] >= v {
			t.Errorf("%s: %v are no nodes, rising", what, nodes)
			return
		}
	}
}

func TestMostByHand(t *testing.T) {
	for _, x := range []struct {
		name     string
		n        api.Net
		from, to int
		want     int
	}{
		{"the chapter's example", netOf(3, 0, 1, 3, 1, 2, 2), 0, 2, 2},
		{"the other way nothing goes", netOf(3, 0, 1, 3, 1, 2, 2), 2, 0, 0},
		{"no arcs", netOf(2), 0, 1, 0},
		{"no arcs, the last node first", netOf(5), 4, 0, 0},
		{"an arc", netOf(2, 0, 1, 7), 0, 1, 7},
		{"an arc that holds nothing", netOf(2, 0, 1, 0), 0, 1, 0},
		{"several from one node to another", netOf(2, 0, 1, 3, 0, 1, 4, 0, 1, 0), 0, 1, 7},
		{"arcs of nodes to themselves", netOf(2, 0, 0, 5, 0, 1, 3, 1, 1, 6), 0, 1, 3},
		{"arcs back", netOf(2, 1, 0, 9, 0, 1, 3), 0, 1, 3},
		{"arcs into s and out of t", netOf(4, 2, 0, 5, 0, 1, 2, 1, 2, 4, 1, 3, 4, 3, 1, 8), 0, 3, 2},
		{"what went one way must be turned", netOf(4, 0, 1, 1, 0, 2, 1, 1, 2, 1, 1, 3, 1, 2, 3, 1), 0, 3, 2},
		{"the long way first", netOf(6, 0, 1, 1, 1, 2, 1, 2, 5, 1, 0, 3, 1, 3, 2, 1, 1, 4, 1, 4, 5, 1), 0, 5, 2},
		{"far off", netOf(5, 3, 2, 4, 2, 4, 9), 3, 4, 4},
		{"a known one", netOf(6, 0, 1, 16, 0, 2, 13, 1, 2, 10, 2, 1, 4, 1, 3, 12, 3, 2, 9, 2, 4, 14, 4, 3, 7, 3, 5, 20, 4, 5, 4), 0, 5, 23},
	} {
		if got := wantMost(t, x.n, x.from, x.to); got != x.want {
			t.Errorf("Most, %s: %d, want %d", x.name, got, x.want)
		}
	}
}

// Where there is but one answer.
func TestMostFlowsAndSide(t *testing.T) {
	value, flows, side, f := flow.Most(netOf(4, 0, 1, 3, 1, 2, 2, 2, 2, 0, 2, 3, 3), 0, 3)
	if value != 2 || !slices.Equal(flows, []int{2, 2, 0, 2}) || !slices.Equal(side, []int{0, 1}) || f != (api.Fault{}) {
		t.Errorf("Most: %d %v %v %v", value, flows, side, f)
	}
	value, flows, side, f = flow.Most(netOf(2), 1, 0)
	if value != 0 || len(flows) != 0 || !slices.Equal(side, []int{1}) || f != (api.Fault{}) {
		t.Errorf("Most without arcs: %d %v %v %v", value, flows, side, f)
	}
}

// Three nodes, and an arc from each to each, also to itself, that holds 0, 1 or 2, in all ways.
func TestMostOfAllSmallNets(t *testing.T) {
	for code := range 19683 {
		n := api.Net{N: 3}
		for pair := range 9 {
			n.Arcs = append(n.Arcs, api.Arc{From: pair / 3, To: pair % 3, Cap: code % 3})
			code /= 3
		}
		if got, want := wantMost(t, n, 0, 2), leastCut(n, 0, 2); got != want {
			t.Errorf("Most of %v: %d, want %d", n, got, want)
		}
	}
}

func TestMostOfMixedNets(t *testing.T) {
	for seed := range 4000 {
		nodes := 2 + seed%7
		n := mixedNet(nodes, seed%37, 1+seed%11, seed)
		from := seed % nodes
		to := (from + 1 + seed/7%(nodes-1)) % nodes
		if got, want := wantMost(t, n, from, to), leastCut(n, from, to); got != want {
			t.Errorf("Most of %v from %d to %d: %d, want %d", n, from, to, got, want)
		}
	}
	for seed := range 1500 {
		n := mixedNet(20+seed%81, 40+seed%961, 1+seed*seed%api.MaxValue, seed)
		wantMost(t, n, seed%n.N, (seed+7)%n.N)
	}
}

func TestMostAtTheLimits(t *testing.T) {
	thick := api.Net{N: 2}
	long := api.Net{N: api.MaxNodes}
	for range api.MaxEdges {
		thick.Arcs = append(thick.Arcs, api.Arc{From: 1, To: 0, Cap: api.MaxValue})
	}
	for v := range api.MaxEdges {
		long.Arcs = append(long.Arcs, api.Arc{From: v % api.MaxNodes, To: (v + 1) % api.MaxNodes, Cap: api.MaxValue - v})
	}
	grown := mixedNet(api.MaxNodes, api.MaxEdges, api.MaxValue, 8)
	for _, x := range []struct {
		name     string
		n        api.Net
		from, to int
		want     int
	}{
		{"MaxNodes without arcs", netOf(api.MaxNodes), api.MaxNodes - 1, 0, 0},
		{"MaxEdges arcs with MaxValue", thick, 1, 0, api.MaxEdges * api.MaxValue},
		{"the same ones, the other way", thick, 0, 1, 0},
		{"ten rings through all nodes", long, 0, 99, 10*api.MaxValue - 98 - 198 - 298 - 398 - 498 - 598 - 698 - 798 - 898 - 998},
		{"many mixed arcs", grown, 3, 97, mostBetween(grown, 3, 97)},
	} {
		if got := wantMost(t, x.n, x.from, x.to); got != x.want {
			t.Errorf("Most, %s: %d, want %d", x.name, got, x.want)
		}
	}
	for _, g := range great() {
		if 2*len(g.Edges) <= api.MaxEdges {
			wantMost(t, eitherWay(g, mixedWeights(g, api.MaxValue, g.N)), 0, g.N-1)
		}
	}
}
