package group_test

import (
	"math/big"
	"strconv"
	"testing"

	"arbor/api"
	"arbor/group"
)

func TestOrderOfExamples(t *testing.T) {
	wantOrder(t, "a ring of three", 3, [][]int{{1, 2, 0}}, "3")
	wantOrder(t, "a ring and a swap", 5, [][]int{{1, 2, 3, 4, 0}, {1, 0, 2, 3, 4}}, "120")
	wantOrder(t, "what keeps Petersen's graph", 10, pairsOf(5).gens, "120")
	wantOrder(t, "what keeps a ring of five", 5, [][]int{turn(5), mirror(5)}, "10")
}

func TestOrderOfFewNumbers(t *testing.T) {
	wantOrder(t, "no numbers", 0, nil, "1")
	wantOrder(t, "no numbers, and permutations of them", 0, [][]int{{}, nil, {}}, "1")
	wantOrder(t, "one number", 1, nil, "1")
	wantOrder(t, "one number, that stays", 1, [][]int{{0}, {0}}, "1")
	wantOrder(t, "two numbers", 2, [][]int{{0, 1}}, "1")
	wantOrder(t, "a swap", 2, [][]int{{0, 1}, {1, 0}}, "2")
	wantOrder(t, "many numbers", api.MaxNodes, nil, "1")
}

// wantAsAccount holds all calls against the second account, In of some permutations.
func wantAsAccount(t *testing.T, n int, gens, asked [][]int) {
	t.Helper()
	all := groupOf(n, gens)
	wantOrder(t, "a small group", n, gens, strconv.Itoa(len(all)))
	wantOrbits(t, "a small group", n, gens, orbitsOf(n, all))
	for _, p := range asked {
		wantIn(t, "a small group", n, gens, p, all[key(p)])
	}
}

func TestAllSmallGroups(t *testing.T) {
	for n := range 5 {
		all := permutations(n)
		wantAsAccount(t, n, nil, all)
		for _, p := range all {
			wantAsAccount(t, n, [][]int{p}, all)
			for _, q := range all {
				wantAsAccount(t, n, [][]int{p, q}, all)
			}
		}
	}
	three := permutations(3)
	for _, p := range three {
		for _, q := range three {
			for _, r := range three {
				wantAsAccount(t, 3, [][]int{p, q, r}, three)
			}
		}
	}
	five := permutations(5)
	for i, p := range five {
		for j, q := range five {
			if (i+j)%7 == 0 {
				wantAsAccount(t, 5, [][]int{p, q}, five)
			}
		}
	}
}

func TestMixedGroups(t *testing.T) {
	whole := 0
	for seed := range 600 {
		next := drawFrom(seed)
		n := 6 + next(2)
		gens := decks(n, 1+next(3), seed)
		if seed%2 == 0 {
			gens = loose(n, 1+next(5), 1+next(3), seed)
		}
		wantAsAccount(t, n, gens, decks(n, 20, seed+1000))
		if s, _ := group.Order(n, gens); s == factorial(n).String() {
			whole++
		}
	}
	if whole < 50 || whole > 550 {
		t.Errorf("%d of 600 mixed groups have all permutations: too few of the one kind are tried", whole)
	}
}

func TestOrderOfFamilies(t *testing.T) {
	for _, f := range smallFamilies() {
		wantOrder(t, f.name, f.n, f.gens, f.order.String())
		for seed := range 5 {
			wantOrder(t, f.name+", shuffled", f.n, shuffled(f.gens, seed), f.order.String())
		}
	}
	for seed, f := range greatFamilies() {
		wantOrder(t, f.name+", great", f.n, f.gens, f.order.String())
		wantOrder(t, f.name+", great and shuffled", f.n, shuffled(f.gens, seed), f.order.String())
	}
}

// As many permutations as may be, of as many numbers.
func TestOrderAtTheLimits(t *testing.T) {
	n := api.MaxNodes
	wantOrder(t, "mixed ones", n, decks(n, n, 1), factorial(n).String())
	even := decks(n, n, 2)
	for i, p := range even {
		if !isEven(p) {
			even[i] = then(p, rings(n, []int{0, 1}))
		}
	}
	wantOrder(t, "even ones", n, even, half(factorial(n)).String())
	wantOrder(t, "powers of a turn", n, powers(turn(n), n), strconv.Itoa(n))
	wantOrder(t, "even powers of a turn", n, powers(often(turn(n), 2), n), strconv.Itoa(n/2))
}

// powers has p done once, twice, ..
func powers(p []int, many int) [][]int {
	out := [][]int{p}
	for range many - 1 {
		out = append(out, then(out[len(out)-1], p))
	}
	return out
}

// Groups that go by themselves beside each other have as many as there are pairs of one of each.
func TestOrderOfGroupsBesideEachOther(t *testing.T) {
	for seed := range 40 {
		next := drawFrom(seed)
		n, m := 2+next(18), 2+next(18)
		a, b := loose(n, 1+next(n), 1+next(4), seed), loose(m, 1+next(m), 1+next(4), seed+1)
		want := times(number(t, n, a), number(t, m, b))
		wantOrder(t, "two groups", n+m, beside(n, m, a, b), want.String())
		wantOrder(t, "two groups, shuffled", n+m, shuffled(beside(n, m, a, b), seed), want.String())
	}
}

// With one more permutation a group stays as it is, if that is in it; else it has some times as many.
func TestOrderWithOneMore(t *testing.T) {
	grown := 0
	for seed := range 120 {
		next := drawFrom(seed)
		n := 8 + next(20)
		gens := loose(n, 1+next(n), 1+next(4), seed)
		p := word(n, gens, 30, next)
		if seed%3 > 0 {
			p = loose(n, 1, 2, seed+500)[0]
		}
		less, more := number(t, n, gens), number(t, n, append(gens, p))
		in, _ := group.In(n, gens, p)
		many, left := new(big.Int).QuoRem(more, less, new(big.Int))
		if left.Sign() != 0 || in != (more.Cmp(less) == 0) || seed%3 == 0 && !in {
			t.Errorf("%v and %v (in: %v): %v times as many, and %v", gens, p, in, many, left)
		}
		if !in {
			grown++
		}
	}
	if grown < 20 {
		t.Errorf("%d of 120 groups have grown: too few are tried", grown)
	}
}
