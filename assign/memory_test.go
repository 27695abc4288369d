package assign_test

import (
	"fmt"
	"math"
	"slices"
	"testing"

	"arbor/api"
	"arbor/assign"
)

// spare is lists with memory behind their length, in which odd things stand.
func spare(lists [][]int) [][]int {
	out := make([][]int, 0, len(lists)+2)
	for _, l := range lists {
		out = append(out, append(slices.Clone(l), -7, -7)[:len(l)])
	}
	return append(out, []int{-7, -7}, nil)[:len(lists)]
}

// whole tells lists of spare with what stands behind them.
func whole(lists [][]int) string {
	told := fmt.Sprint(lists[:len(lists)+2])
	for _, l := range lists {
		told += fmt.Sprint(l[:len(l)+2])
	}
	return told
}

// spoil writes over all memory of a list, also behind its length.
func spoil(l []int) {
	for i := range l[:cap(l)] {
		l[:cap(l)][i] = -9
	}
}

func TestListsAreOnlyReadAndAnswersAreNew(t *testing.T) {
	for seed := range 60 {
		n := seed % 13
		wantNewOfLeast(t, mixedCost(n, -seed, seed, seed))
		wantNewOfStable(t, mixedLists(n, seed), mixedLists(n, seed+100))
	}
}

func wantNewOfLeast(t *testing.T, was [][]int) {
	t.Helper()
	cost := spare(was)
	before := whole(cost)
	to, rows, cols, total, f := assign.Least(cost)
	told := fmt.Sprint(to, rows, cols, total, f)
	lists := [][]int{to, rows, cols}
	for i, l := range lists {
		left := fmt.Sprint(lists[i+1:])
		spoil(l)
		if fmt.Sprint(lists[i+1:]) != left {
			t.Errorf("Least of %v: list %d shares memory with %s", was, i, left)
		}
	}
	if again := fmt.Sprint(assign.Least(cost)); again != fmt.Sprint(assign.Least(was)) || again != told {
		t.Errorf("Least of %v: %s, then %s", was, told, again)
	}
	if after := whole(cost); after != before {
		t.Errorf("Least changed %s to %s", before, after)
	}
}

func wantNewOfStable(t *testing.T, wasA, wasB [][]int) {
	t.Helper()
	a, b := spare(wasA), spare(wasB)
	before := whole(a) + whole(b)
	to, f := assign.Stable(a, b)
	told := fmt.Sprint(to, f)
	spoil(to)
	if again := fmt.Sprint(assign.Stable(a, b)); again != fmt.Sprint(assign.Stable(wasA, wasB)) || again != told {
		t.Errorf("Stable of %v %v: %s, then %s", wasA, wasB, told, again)
	}
	if after := whole(a) + whole(b); after != before {
		t.Errorf("Stable changed %s to %s", before, after)
	}
}

// One list may stand in several places of what comes in.
func TestListsThatAreShared(t *testing.T) {
	l := []int{2, 0, 1}
	lists := [][]int{l, l, l}
	if got, want := tellAll(lists, lists), tellAll(copied(lists), copied(lists)); got != want {
		t.Errorf("%s, want %s", got, want)
	}
}

func TestListsWithoutElementsAreTheSame(t *testing.T) {
	for n := range 4 {
		none := make([][]int, n)
		empty := table(n, func(int, int) int { return 0 })
		for i := range empty {
			empty[i] = []int{}
		}
		for _, b := range [][][]int{nil, {}, {nil}, {{}}, none, empty} {
			if one, two := tellAll(none, b), tellAll(empty, b); one != two {
				t.Errorf("%d lists: %s, then %s", n, one, two)
			}
			if one, two := tellAll(b, none), tellAll(b, empty); one != two {
				t.Errorf("%d lists of b: %s, then %s", n, one, two)
			}
		}
	}
	if nothing, empty := tellAll(nil, nil), tellAll([][]int{}, [][]int{}); nothing != empty {
		t.Errorf("%s, then %s", nothing, empty)
	}
}

// numbers at which arithmetic and limits give way.
func numbers() []int {
	return []int{math.MinInt, -api.MaxValue - 1, -api.MaxValue, -1, 0, 1, 2, api.MaxNodes, api.MaxValue, api.MaxValue + 1, math.MaxInt}
}

func TestNoCallPanicsAndAnswersHangOnArgumentsAlone(t *testing.T) {
	all := [][][]int{nil, {nil}, make([][]int, 1000), alike(api.MaxNodes), turning(api.MaxNodes), mixedLists(api.MaxNodes, 1), mixedCost(api.MaxNodes, -api.MaxValue, api.MaxValue, 1), alike(api.MaxNodes + 1)}
	for _, x := range numbers() {
		for _, y := range numbers() {
			all = append(all, [][]int{{x}}, [][]int{{x, y}, {y, x}}, [][]int{{x, y}, {0, 1}}, [][]int{{0, 1}, {y, x}}, [][]int{{x}, {y, x}})
		}
	}
	for _, a := range all {
		for _, b := range [][][]int{nil, {{0}}, {{0, 1}, {1, 0}}, alike(api.MaxNodes), a} {
			if first, second := tellAll(a, b), tellAll(a, b); first != second {
				t.Errorf("%v %v: %s, then %s", a, b, first, second)
			}
		}
	}
}
