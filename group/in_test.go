package group_test

import (
	"slices"
	"testing"

	"arbor/api"
	"arbor/group"
)

func TestInOfFewNumbers(t *testing.T) {
	wantIn(t, "no numbers", 0, nil, nil, true)
	wantIn(t, "no numbers", 0, [][]int{{}}, []int{}, true)
	wantIn(t, "one number", 1, nil, []int{0}, true)
	wantIn(t, "two numbers", 2, nil, []int{0, 1}, true)
	wantIn(t, "two numbers", 2, nil, []int{1, 0}, false)
	wantIn(t, "two numbers that stay", 2, [][]int{{0, 1}}, []int{1, 0}, false)
	wantIn(t, "a swap", 2, [][]int{{1, 0}}, []int{1, 0}, true)
	wantIn(t, "a ring of three", 3, [][]int{{1, 2, 0}}, []int{2, 0, 1}, true)
	wantIn(t, "a ring of three", 3, [][]int{{1, 2, 0}}, []int{1, 0, 2}, false)
}

// asked has permutations some of which are in the group, some nearly, and some far from it.
func asked(f family, many, seed int) [][]int {
	next := drawFrom(seed)
	out := [][]int{still(f.n), swaps(f.n, f.n-2, f.n-1)[0], turn(f.n), mirror(f.n)}
	for range many {
		p := still(f.n)
		if len(f.gens) > 0 {
			p = word(f.n, f.gens, 40, next)
		}
		near := loose(f.n, 1, 1+next(3), next(1000))[0]
		out = append(out, p, then(p, near), near, deck(f.n, next))
	}
	return out
}

func TestInOfFamilies(t *testing.T) {
	in, out := 0, 0
	for seed, f := range smallFamilies() {
		if f.has == nil {
			continue
		}
		names := deck(f.n, drawFrom(seed))
		gens := renamed(f.gens, names)
		for _, p := range asked(f, 15, seed) {
			wantIn(t, f.name, f.n, f.gens, p, f.has(p))
			wantIn(t, f.name+", shuffled", f.n, gens, renamed([][]int{p}, names)[0], f.has(p))
			if f.has(p) {
				in++
			} else {
				out++
			}
		}
	}
	if in < 500 || out < 500 {
		t.Errorf("%d are in, and %d are not: too few of the one kind are tried", in, out)
	}
}

func TestInOfGreatFamilies(t *testing.T) {
	for seed, f := range greatFamilies() {
		if f.has == nil || f.order.Cmp(factorial(f.n)) == 0 {
			continue // where all are in, one question is enough, below
		}
		all := asked(f, 1, seed)
		for _, p := range all[len(all)-4 : len(all)-2] { // one that is in, and one that is near it
			wantIn(t, f.name+", great", f.n, f.gens, p, f.has(p))
		}
	}
	n := api.MaxNodes
	wantIn(t, "all", n, decks(n, n, 1), deck(n, drawFrom(2)), true)
}

// Rubik's cube can be turned so that all edges are flipped, but not so that one is alone, or one corner is turned.
func TestInOfRubiksCube(t *testing.T) {
	gens := rubik()
	edges := [][]int{{1, 33}, {3, 9}, {4, 25}, {6, 17}, {11, 36}, {12, 19}, {14, 43}, {20, 27}, {22, 41}, {28, 35}, {30, 44}, {38, 46}}
	corners := [][]int{{0, 34, 8}, {2, 26, 32}, {5, 10, 16}, {7, 18, 24}, {13, 39, 45}, {15, 40, 21}, {23, 42, 29}, {31, 47, 37}}
	wantIn(t, "Rubik's, all edges", 48, gens, rings(48, edges...), true)
	wantIn(t, "Rubik's, two edges", 48, gens, rings(48, edges[3:5]...), true)
	wantIn(t, "Rubik's, three edges", 48, gens, rings(48, edges[5:8]...), false)
	wantIn(t, "Rubik's, one edge", 48, gens, rings(48, edges[7]), false)
	wantIn(t, "Rubik's, one corner", 48, gens, rings(48, corners[2]), false)
	wantIn(t, "Rubik's, one corner and one edge", 48, gens, rings(48, corners[0], edges[0]), false)
	back := slices.Clone(corners[6])
	slices.Reverse(back)
	wantIn(t, "Rubik's, two corners", 48, gens, rings(48, corners[1], back), true)
	wantIn(t, "Rubik's, an edge torn apart", 48, gens, rings(48, []int{1, 3}), false)
	wantIn(t, "Rubik's, a corner on an edge", 48, gens, rings(48, []int{0, 1}), false)
}

// Each permutation is in the group of itself; what comes of words is, too, and what takes it back.
func TestInOfWords(t *testing.T) {
	for seed := range 40 {
		next := drawFrom(seed)
		n := 10 + next(30)
		gens := loose(n, 1+next(8), 1+next(5), seed)
		for _, g := range gens {
			wantIn(t, "its own", n, gens, g, true)
			wantIn(t, "its own, alone", n, [][]int{g}, back(g), true)
		}
		p := word(n, gens, 50, next)
		wantIn(t, "a word", n, gens, p, true)
		wantIn(t, "a word back", n, gens, back(p), true)
	}
	n := api.MaxNodes
	gens := slices.Repeat([][]int{often(turn(n), 4)}, n)
	for by := range 12 {
		wantIn(t, "every fourth turn", n, gens, often(turn(n), by), by%4 == 0)
	}
}

// What is wrong with p is told behind all that is wrong with gens, also where there are as many of these as may be.
func TestInFaultsOfP(t *testing.T) {
	n := 3
	for _, many := range []int{0, 1, 2, api.MaxNodes - 1, api.MaxNodes} {
		gens := slices.Repeat([][]int{turn(n)}, many)
		for _, c := range []struct {
			p    []int
			want int
		}{
			{nil, api.ErrSize},
			{[]int{}, api.ErrSize},
			{[]int{0, 1}, api.ErrSize},
			{[]int{0, 1, 2, 3}, api.ErrSize},
			{[]int{7, 7}, api.ErrSize},
			{[]int{0, 1, 3}, api.ErrRange},
			{[]int{-1, 1, 2}, api.ErrRange},
			{[]int{3, 3, 3}, api.ErrRange},
			{[]int{0, 3, 0}, api.ErrRange},
			{[]int{0, 0, 3}, api.ErrTwice},
			{[]int{0, 1, 0}, api.ErrTwice},
			{[]int{2, 2, 2}, api.ErrTwice},
		} {
			if in, f := group.In(n, gens, c.p); in || f != fault(c.want, many) {
				t.Errorf("In of %d gens and %v: %v %v, want false and %v", many, c.p, in, f, fault(c.want, many))
			}
			if many > 0 {
				wrong := slices.Concat(gens[1:], [][]int{{2, 1, 1}})
				if in, f := group.In(n, wrong, c.p); in || f != fault(api.ErrTwice, many-1) {
					t.Errorf("In of a wrong one and %v: %v %v", c.p, in, f)
				}
			}
		}
	}
}
