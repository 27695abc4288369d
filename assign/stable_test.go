package assign_test

import (
	"math"
	"slices"
	"testing"

	"arbor/api"
	"arbor/assign"
)

// wantStable holds an answer of Stable against what it has to be, and answers it.
func wantStable(t *testing.T, what string, a, b [][]int) []int {
	t.Helper()
	to, f := assign.Stable(a, b)
	if f != (api.Fault{}) || !isOrder(to, len(a)) {
		t.Fatalf("Stable, %s: %v %v of %v %v", what, to, f, a, b)
	}
	if !isStable(a, b, to) || canRise(a, b, to) {
		t.Fatalf("Stable, %s: %v is not stable, or not the best, of %v %v", what, to, a, b)
	}
	return to
}

func TestStableByHand(t *testing.T) {
	for _, c := range []struct {
		what string
		a, b [][]int
		want []int
	}{
		{"nobody", nil, nil, nil},
		{"one and one", [][]int{{0}}, [][]int{{0}}, []int{0}},
		{"the document's", [][]int{{0, 1}, {0, 1}}, [][]int{{1, 0}, {0, 1}}, []int{1, 0}},
		{"both get whom they like best", [][]int{{1, 0}, {0, 1}}, [][]int{{0, 1}, {1, 0}}, []int{1, 0}},
		{"a is asked first of all", [][]int{{0, 1}, {1, 0}}, [][]int{{1, 0}, {0, 1}}, []int{0, 1}},
		{"in the order in which b likes them", [][]int{{0, 1, 2}, {0, 1, 2}, {0, 1, 2}}, [][]int{{2, 0, 1}, {2, 0, 1}, {2, 0, 1}}, []int{1, 2, 0}},
		{"a ring of three", turning(3), [][]int{{1, 2, 0}, {2, 0, 1}, {0, 1, 2}}, []int{0, 1, 2}},
		{"the same ring, b's side", [][]int{{1, 2, 0}, {2, 0, 1}, {0, 1, 2}}, turning(3), []int{1, 2, 0}},
		{"sent away one after the other", [][]int{{0, 1, 2}, {0, 2, 1}, {0, 2, 1}}, [][]int{{2, 1, 0}, {0, 1, 2}, {1, 2, 0}}, []int{1, 2, 0}},
	} {
		if got := wantStable(t, c.what, c.a, c.b); !slices.Equal(got, c.want) {
			t.Errorf("%s: %v, want %v", c.what, got, c.want)
		}
	}
}

// best holds an answer of Stable against the second account, too.
func best(t *testing.T, what string, a, b [][]int, all [][]int) {
	t.Helper()
	if got, want := wantStable(t, what, a, b), bestByTrying(a, b, all); !slices.Equal(got, want) {
		t.Fatalf("%s: %v, want %v, of %v %v", what, got, want, a, b)
	}
}

// listsOf picks n orders by the digits of a number.
func listsOf(number, n int, all [][]int) [][]int {
	var lists [][]int
	for range n {
		lists = append(lists, all[number%len(all)])
		number /= len(all)
	}
	return lists
}

func TestStableOfAllSmallLists(t *testing.T) {
	for n, many := range []int{1, 1, 4, 216} { // so many lists of lists
		all := orders(n)
		for first := range many {
			for second := range many {
				best(t, "small", listsOf(first, n, all), listsOf(second, n, all), all)
			}
		}
	}
}

func TestStableOfMixedLists(t *testing.T) {
	for n := 4; n <= 6; n++ {
		all := orders(n)
		for seed := range 150 {
			best(t, "mixed", mixedLists(n, seed), mixedLists(n, seed+1000), all)
			best(t, "nearly alike", nearlyAlike(n, 3, seed), nearlyAlike(n, 3, seed+500), all)
			best(t, "against each other", turning(n), mixedLists(n, seed), all)
			best(t, "b turns", mixedLists(n, seed), turning(n), all)
		}
	}
}

// TestAccountOfTheBest holds the account that does without trying against trying: of all stable answers it calls just the best one the best.
func TestAccountOfTheBest(t *testing.T) {
	all := orders(4)
	better := 0
	for seed := range 300 {
		a, b := mixedLists(4, seed), mixedLists(4, seed+2000)
		want := bestByTrying(a, b, all)
		for _, to := range all {
			if !isStable(a, b, to) {
				continue
			}
			if canRise(a, b, to) == slices.Equal(to, want) {
				t.Fatalf("%v of %v %v: the best is %v", to, a, b, want)
			}
			if !slices.Equal(to, want) {
				better++
			}
		}
	}
	if better == 0 {
		t.Error("no stable answer but the best ones was looked at")
	}
}

func TestStableAtTheLimits(t *testing.T) {
	n := api.MaxNodes
	up, down := make([]int, n), make([]int, n)
	for i := range n {
		up[i], down[i] = i, n-1-i
	}
	for _, c := range []struct {
		what string
		a, b [][]int
		want []int
	}{
		{"all alike", alike(n), alike(n), up},
		{"the last one is the best", alike(n), reversed(alike(n)), down},
		{"each another one", turning(n), alike(n), up},
		{"each another one, and b would rather not", turning(n), reversed(turning(n)), up},
		{"all ask the last one first", reversed(alike(n)), alike(n), down},
		{"as many are asked as can be", longest(n), longestBack(n), append([]int{n - 1}, up[:n-1]...)},
	} {
		if got := wantStable(t, c.what, c.a, c.b); !slices.Equal(got, c.want) {
			t.Errorf("%s: %v, want %v", c.what, got, c.want)
		}
	}
	for seed := range 4 {
		wantStable(t, "mixed", mixedLists(n-seed, seed), mixedLists(n-seed, seed+50))
		wantStable(t, "nearly alike", nearlyAlike(n-seed, 40*seed, seed), nearlyAlike(n-seed, 400, seed+50))
		wantStable(t, "turning", turning(n-seed), mixedLists(n-seed, seed))
	}
}

// longest: all of a but the last one begin with another one of b, and ask in a ring; they ask the last one of b last.
func longest(n int) [][]int {
	return table(n, func(row, col int) int {
		if row == n-1 || col == n-1 {
			return col
		}
		return (row + col) % (n - 1)
	})
}

// longestBack: each of b but the last one likes better whoever asks it later, so that everyone has to ask everyone.
func longestBack(n int) [][]int {
	return table(n, func(row, col int) int { return (row + 1 + col) % n })
}

func TestFaultsOfStable(t *testing.T) {
	good, other := mixedLists(4, 1), mixedLists(4, 2)
	n := api.MaxNodes
	for _, c := range []struct {
		what string
		a, b [][]int
		want api.Fault
	}{
		{"one too many", alike(n + 1), alike(n + 1), fault(api.ErrMany, 0)},
		{"very many", make([][]int, 100000), nil, fault(api.ErrMany, 0)},
		{"many ahead of size", alike(n + 1), nil, fault(api.ErrMany, 0)},
		{"b too few", good, other[:3], fault(api.ErrSize, 4)},
		{"b too many", good, alike(5), fault(api.ErrSize, 4)},
		{"b far too many", good, make([][]int, 100000), fault(api.ErrSize, 4)},
		{"nobody in b", [][]int{{0}}, nil, fault(api.ErrSize, 1)},
		{"nobody in a", nil, [][]int{{0}}, fault(api.ErrSize, 0)},
		{"b too few at the limits", alike(n), alike(n)[1:], fault(api.ErrSize, n)},
		{"b's number ahead of a's lists", swap(good, 0, 7), other[1:], fault(api.ErrSize, 4)},
		{"one list without names", [][]int{nil}, [][]int{{0}}, fault(api.ErrSize, 0)},
		{"b's list without names", [][]int{{0}}, [][]int{nil}, fault(api.ErrSize, 1)},
		{"a's list too short", swap(good, 2, 0, 1, 2), other, fault(api.ErrSize, 2)},
		{"a's list too long", swap(good, 3, 0, 1, 2, 3, 3), other, fault(api.ErrSize, 3)},
		{"b's list too short", good, swap(other, 0, 0, 1, 2), fault(api.ErrSize, 4)},
		{"b's list too long", good, swap(other, 3, 0, 1, 2, 3, 0), fault(api.ErrSize, 7)},
		{"a very long list", good, swap(other, 1, make([]int, 100000)...), fault(api.ErrSize, 5)},
		{"a's name too great", put(good, 1, 3, 4), other, fault(api.ErrRange, 1)},
		{"a's name below 0", put(good, 0, 0, -1), other, fault(api.ErrRange, 0)},
		{"a's name far below 0", put(good, 3, 1, math.MinInt), other, fault(api.ErrRange, 3)},
		{"b's name too great", good, put(other, 2, 0, 4), fault(api.ErrRange, 6)},
		{"b's name below 0", good, put(other, 3, 3, -1), fault(api.ErrRange, 7)},
		{"b's name far too great", good, put(other, 0, 2, math.MaxInt), fault(api.ErrRange, 4)},
		{"a names one twice", swap(good, 2, 0, 1, 2, 0), other, fault(api.ErrTwice, 2)},
		{"a names one twice at once", swap(good, 0, 3, 3, 1, 0), other, fault(api.ErrTwice, 0)},
		{"b names one twice", good, swap(other, 3, 3, 1, 2, 3), fault(api.ErrTwice, 7)},
		{"b names one only", good, swap(other, 0, 2, 2, 2, 2), fault(api.ErrTwice, 4)},
		{"twice in the last place at the limits", alike(n), put(alike(n), n-1, n-1, 0), fault(api.ErrTwice, 2*n-1)},
		{"range in the last place at the limits", alike(n), put(alike(n), n-1, n-1, n), fault(api.ErrRange, 2*n-1)},
		{"size ahead of range and twice", swap(good, 1, -1, 0, 0), other, fault(api.ErrSize, 1)},
		{"range ahead of twice in one list", swap(good, 1, 0, 7, 0, 1), other, fault(api.ErrRange, 1)},
		{"twice ahead of range in one list", swap(good, 1, 0, 0, 7, 1), other, fault(api.ErrTwice, 1)},
		{"outside and twice is outside", swap(good, 1, 7, 7, 0, 1), other, fault(api.ErrRange, 1)},
		{"a's list ahead of b's", swap(good, 3, 0, 0, 1, 2), swap(other, 0, 1), fault(api.ErrTwice, 3)},
		{"a's first wrong list", swap(put(good, 1, 2, 9), 2, 1), other, fault(api.ErrRange, 1)},
		{"b's first wrong list", good, swap(swap(other, 2, 1, 1, 1, 1), 1, 0, 1, 2), fault(api.ErrSize, 5)},
	} {
		wantFaultOfStable(t, c.what, c.a, c.b, c.want)
	}
}
