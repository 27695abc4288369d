package group_test

import (
	"slices"
	"testing"

	"arbor/api"
)

// singles has each number by itself.
func singles(n int) [][]int {
	var out [][]int
	for i := range n {
		out = append(out, []int{i})
	}
	return out
}

func TestOrbitsByHand(t *testing.T) {
	for _, c := range []struct {
		name string
		n    int
		gens [][]int
		want [][]int
	}{
		{"no numbers", 0, nil, nil},
		{"no numbers, and permutations of them", 0, [][]int{{}, nil}, nil},
		{"one number", 1, nil, [][]int{{0}}},
		{"one number that stays", 1, [][]int{{0}}, [][]int{{0}}},
		{"two swaps", 5, [][]int{{1, 0, 2, 4, 3}}, [][]int{{0, 1}, {2}, {3, 4}}},
		{"the last with the first", 4, [][]int{{3, 1, 2, 0}}, [][]int{{0, 3}, {1}, {2}}},
		{"rings in each other", 6, [][]int{rings(6, []int{5, 0, 3}, []int{4, 2})}, [][]int{{0, 3, 5}, {1}, {2, 4}}},
		{"a chain of swaps, from its end", 5, swaps(5, 4, 3, 3, 2, 2, 1), [][]int{{0}, {1, 2, 3, 4}}},
		{"joined by the last one", 6, swaps(6, 0, 4, 1, 5, 5, 0), [][]int{{0, 1, 4, 5}, {2}, {3}}},
		{"many that stay", api.MaxNodes, nil, singles(api.MaxNodes)},
		{"many that go round", api.MaxNodes, [][]int{turn(api.MaxNodes)}, [][]int{still(api.MaxNodes)}},
	} {
		wantOrbits(t, c.name, c.n, c.gens, c.want)
	}
}

func TestOrbitsOfMixedOnes(t *testing.T) {
	several := 0
	for seed := range 500 {
		next := drawFrom(seed)
		n := 2 + next(api.MaxNodes-1)
		gens := loose(n, 1+next(api.MaxNodes), 1+next(3), seed)
		want := joinedOrbits(n, gens)
		wantOrbits(t, "mixed ones", n, gens, want)
		if len(want) > 1 && len(want) < n {
			several++
		}
	}
	if several < 100 {
		t.Errorf("%d of 500 have several orbits, some of several numbers: too few are tried", several)
	}
}

func TestOrbitsOfFamilies(t *testing.T) {
	for seed, f := range slices.Concat(smallFamilies(), greatFamilies()) {
		gens := shuffled(f.gens, seed)
		wantOrbits(t, f.name, f.n, f.gens, joinedOrbits(f.n, f.gens))
		wantOrbits(t, f.name+", shuffled", f.n, gens, joinedOrbits(f.n, gens))
	}
}
