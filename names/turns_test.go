package names_test

import (
	"fmt"
	"math/big"
	"testing"

	"arbor/api"
	"arbor/group"
	"arbor/names"
	"arbor/parts"
)

func TestTurnsOfExamples(t *testing.T) {
	wantTurns(t, "a ring of five", ring(5), number(10))
	wantTurns(t, "Petersen's", petersen(), number(120))
}

func TestTurnsOfFewNodes(t *testing.T) {
	wantTurns(t, "nothing", of(0), number())
	wantTurns(t, "a node", of(1), number())
	wantTurns(t, "two nodes", of(2), number(2))
	wantTurns(t, "an edge", of(2, 1, 0), number(2))
	if gens, _, _ := names.Turns(of(2)); fmt.Sprint(gens) != "[[1 0]]" {
		t.Errorf("Turns of two nodes: %v, the group must be that of [1 0]", gens)
	}
}

func TestTurnsOfFamilies(t *testing.T) {
	for seed, f := range families() {
		wantTurns(t, f.name, f.g, f.order)
		wantTurns(t, f.name+", shuffled", shuffled(f.g, seed), f.order)
		wantTurns(t, f.name+", the other edges", other(f.g), f.order)
	}
}

// wantAsCounted holds Turns against a count of all that keep g.
func wantAsCounted(t *testing.T, g api.Graph) {
	t.Helper()
	wantTurns(t, "a graph", g, number(howMany(g, g, 1000000)))
}

func TestTurnsOfAllSmallGraphs(t *testing.T) {
	for n := range 6 {
		for _, g := range small(n) {
			wantAsCounted(t, g)
		}
	}
}

func TestTurnsOfMixedGraphs(t *testing.T) {
	for seed := range 300 {
		wantAsCounted(t, mixed(6+seed%4, seed%100, seed))
	}
	for seed := range 200 {
		n := 8 + seed%17
		wantAsCounted(t, switched(jumps(n, 1, 2), seed%40, seed))
		wantAsCounted(t, switched(jumps(n, 1, 2, 3), seed%20, seed))
	}
	for seed := range 60 {
		wantAsCounted(t, mixed(limit-seed%5, 20+seed, seed))
	}
}

func TestTurnsOfRings(t *testing.T) {
	for n := 3; n <= limit; n++ {
		for far := 2; far <= n/2; far++ {
			wantAsCounted(t, shuffled(jumps(n, 1, far), n+far))
		}
	}
}

// All that keep a graph, and they alone, are in the group.
func TestTurnsHasAllThatKeepIt(t *testing.T) {
	for seed := range 120 {
		g := mixed(5, 10+seed%80, seed)
		gens, _, _ := names.Turns(g)
		for _, p := range permutations(5) {
			if in, f := group.In(5, gens, p); in != takes(p, g, g) || f != (api.Fault{}) {
				t.Errorf("Turns of %v: %v, is %v in the group: %v %v", g, gens, p, in, f)
			}
		}
	}
}

// Graphs that hang together and are not the same go by themselves beside each other; those that are the same may change places, too.
func TestTurnsOfGraphsBesideEachOther(t *testing.T) {
	tried := 0
	for seed := range 300 {
		n := 4 + seed%9
		a, b := switched(jumps(n, 1, 2), seed%9, seed), mixed(limit-n, 15+seed%30, seed+1)
		if pieces, _ := parts.Components(b); len(pieces) != 1 {
			continue
		}
		if pieces, _ := parts.Components(a); len(pieces) != 1 {
			continue
		}
		tried++
		want := times(orderOf(t, a), orderOf(t, b))
		if howMany(a, b, 1) > 0 {
			want = times(want, number(2))
		}
		wantTurns(t, "two graphs", shuffled(nextTo(a, b), seed), want)
		wantTurns(t, "a graph twice", shuffled(nextTo(a, shuffled(a, seed)), seed), times(power(orderOf(t, a), 2), number(2)))
	}
	if tried < 100 {
		t.Errorf("%d pairs of graphs: too few are tried", tried)
	}
}

func orderOf(t *testing.T, g api.Graph) *big.Int {
	t.Helper()
	many, ok := new(big.Int).SetString(mustTurns(t, "a graph", g), 10)
	if !ok {
		t.Fatalf("Turns of %v: no number", g)
	}
	return many
}
