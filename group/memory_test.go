package group_test

import (
	"fmt"
	"math"
	"slices"
	"testing"

	"arbor/api"
)

func wantFault(t *testing.T, c call, what string, n int, gens [][]int, p []int, want api.Fault) {
	t.Helper()
	if got, f := c.ask(n, gens, p); f != want || !got.isEmpty() {
		t.Errorf("%s of %s: %v %v, want nothing and %v", c.name, what, got, f, want)
	}
}

// Each call tells the first thing that is wrong with n and gens, whatever p is.
func TestFaults(t *testing.T) {
	m := api.MaxNodes
	odd := slices.Repeat([][]int{{5, 5}}, m+1)
	for _, w := range []struct {
		name string
		n    int
		gens [][]int
		want api.Fault
	}{
		{"fewer than none", -1, nil, fault(api.ErrMany, 0)},
		{"far fewer than none", math.MinInt, [][]int{{0}}, fault(api.ErrMany, 0)},
		{"one too many", m + 1, nil, fault(api.ErrMany, 0)},
		{"one too many, and a right one of them", m + 1, [][]int{turn(m + 1)}, fault(api.ErrMany, 0)},
		{"far too many", math.MaxInt, [][]int{{0, 0}}, fault(api.ErrMany, 0)},
		{"one permutation too many", 2, slices.Repeat([][]int{{1, 0}}, m+1), fault(api.ErrMany, 0)},
		{"one permutation too many, of nothing", 0, make([][]int, m+1), fault(api.ErrMany, 0)},
		{"one permutation too many, and all wrong", 2, odd, fault(api.ErrMany, 0)},
		{"as many as may be, the last one wrong", 2, append(slices.Repeat([][]int{{1, 0}}, m-1), []int{1, 1}), fault(api.ErrTwice, m-1)},
		{"as many as may be, all wrong", 2, odd[:m], fault(api.ErrRange, 0)},
		{"too short", 3, [][]int{{0, 1, 2}, {0, 1}}, fault(api.ErrSize, 1)},
		{"too long", 3, [][]int{{0, 1, 2, 3}}, fault(api.ErrSize, 0)},
		{"nothing", 3, [][]int{{1, 2, 0}, {2, 1, 0}, nil}, fault(api.ErrSize, 2)},
		{"something of nothing", 0, [][]int{nil, {0}}, fault(api.ErrSize, 1)},
		{"too short, and odd numbers", 3, [][]int{{9, 9}}, fault(api.ErrSize, 0)},
		{"too great", 3, [][]int{{0, 1, 3}}, fault(api.ErrRange, 0)},
		{"below 0", 3, [][]int{{0, 1, 2}, {-1, 1, 2}}, fault(api.ErrRange, 1)},
		{"far too great", 2, [][]int{{0, math.MaxInt}}, fault(api.ErrRange, 0)},
		{"far below 0", 2, [][]int{{math.MinInt, 0}}, fault(api.ErrRange, 0)},
		{"too great, twice", 3, [][]int{{3, 3, 0}}, fault(api.ErrRange, 0)},
		{"twice", 3, [][]int{{0, 1, 0}}, fault(api.ErrTwice, 0)},
		{"twice, then too great", 3, [][]int{{1, 1, 3}}, fault(api.ErrTwice, 0)},
		{"too great, then twice", 3, [][]int{{1, 3, 1}}, fault(api.ErrRange, 0)},
		{"twice, then too short", 2, [][]int{{0, 1}, {1, 1}, {0}}, fault(api.ErrTwice, 1)},
		{"too great, then too short", 2, [][]int{{0, 2}, {0}}, fault(api.ErrRange, 0)},
		{"too short, then twice", 2, [][]int{{0}, {1, 1}}, fault(api.ErrSize, 0)},
		{"many, the last number too great", m, [][]int{still(m), made(m, func(i int) int { return i + i/(m-1) })}, fault(api.ErrRange, 1)},
		{"many, the last number twice", m, [][]int{made(m, func(i int) int { return i % (m - 1) })}, fault(api.ErrTwice, 0)},
	} {
		for _, c := range calls() {
			for _, p := range [][]int{nil, {0}, {1, 0}, {0, 1, 2}, {7, 7, 7}} {
				wantFault(t, c, w.name, w.n, w.gens, p, w.want)
			}
		}
	}
}

// lists has all lists of up to so many numbers from -1 to top.
func lists(length, top int) [][]int {
	out := [][]int{{}}
	if length == 0 {
		return out
	}
	for _, l := range lists(length-1, top) {
		for x := -1; x <= top; x++ {
			out = append(out, append(slices.Clone(l), x))
		}
	}
	return out
}

// codeOf is a second account of what is wrong with one list.
func codeOf(n int, l []int) int {
	if len(l) != n {
		return api.ErrSize
	}
	met := map[int]bool{}
	for _, x := range l {
		if x < 0 || x > n-1 {
			return api.ErrRange
		}
		if met[x] {
			return api.ErrTwice
		}
		met[x] = true
	}
	return api.OK
}

func firstFault(n int, all [][]int) api.Fault {
	for at, l := range all {
		if code := codeOf(n, l); code != api.OK {
			return fault(code, at)
		}
	}
	return api.Fault{}
}

func TestFaultsOfAllSmallLists(t *testing.T) {
	for n := range 4 {
		all := lists(n+1, n)
		for i, l := range all {
			other := all[(i*31+7)%len(all)]
			for _, gens := range [][][]int{nil, {l}, {still(n), l}, {l, other}, {l, mirror(n)}} {
				for _, p := range [][]int{l, other, still(n)} {
					for _, c := range calls() {
						want := firstFault(n, gens)
						if c.name == "In" {
							want = firstFault(n, append(slices.Clone(gens), p))
						}
						got, f := c.ask(n, gens, p)
						if f != want || f.Code != api.OK && !got.isEmpty() {
							t.Errorf("%s of %d %v %v: %v %v, want %v", c.name, n, gens, p, got, f, want)
						}
					}
				}
			}
		}
	}
}

// spare is a list with memory behind its length, in which odd things stand.
func spare[T any](l []T, odd T) []T { return append(slices.Clone(l), odd, odd)[:len(l)] }

// whole tells what stands in lists of spare, and behind them.
func whole(gens [][]int, p []int) string {
	told := fmt.Sprint(gens[:len(gens)+2], p[:len(p)+2])
	for _, g := range gens {
		told += fmt.Sprint(g[:len(g)+2])
	}
	return told
}

// spoil writes over all memory of a list, also behind its length.
func spoil(l []int) {
	for i := range l[:cap(l)] {
		l[:cap(l)][i] = -9
	}
}

func TestListsAreOnlyReadAndAnswersAreNew(t *testing.T) {
	for seed, f := range smallFamilies() {
		p := still(f.n)
		for range 4 {
			wantNew(t, f.n, f.gens, p)
			p = deck(f.n, drawFrom(seed))
		}
		wantNew(t, f.n, f.gens, []int{-1})
	}
	for seed := range 60 {
		n := seed % 15
		wantNew(t, n, decks(n, seed%4, seed), deck(n, drawFrom(seed)))
		wantNew(t, n, decks(n+seed%3, seed%4, seed), still(n))
	}
}

func wantNew(t *testing.T, n int, was [][]int, p []int) {
	t.Helper()
	var gens [][]int
	for _, g := range was {
		gens = append(gens, spare(g, -7))
	}
	gens, p = spare(gens, []int{-7, -7}), spare(p, -7)
	before := whole(gens, p)
	for _, c := range calls() {
		first, f := c.ask(n, gens, p)
		told := fmt.Sprint(first, f)
		for i, l := range first.orbits {
			left := fmt.Sprint(first.orbits[i+1:])
			spoil(l)
			if fmt.Sprint(first.orbits[i+1:]) != left {
				t.Errorf("%s of %v: list %d shares memory with %s", c.name, was, i, left)
			}
		}
		if again := fmt.Sprint(c.ask(n, gens, p)); again != told {
			t.Errorf("%s of %v: %s, then %s", c.name, was, told, again)
		}
	}
	if after := whole(gens, p); after != before {
		t.Errorf("%s became %s", before, after)
	}
}

// One list may stand in several places of what comes in.
func TestListsThatAreShared(t *testing.T) {
	l := []int{2, 0, 1, 3}
	got, want := tellAll(4, [][]int{l, l, l}, l), tellAll(4, [][]int{{2, 0, 1, 3}}, []int{2, 0, 1, 3})
	if got != want {
		t.Errorf("%s, want %s", got, want)
	}
}

func TestListsWithoutElementsAreTheSame(t *testing.T) {
	for _, n := range []int{-1, 0, 1, 2, api.MaxNodes, api.MaxNodes + 1} {
		for _, many := range []int{0, 1, 2, api.MaxNodes, api.MaxNodes + 1} {
			nothing, empty := make([][]int, many), slices.Repeat([][]int{{}}, many)
			if one, two := tellAll(n, nothing, nil), tellAll(n, empty, []int{}); one != two {
				t.Errorf("%d numbers, %d lists: %s, then %s", n, many, one, two)
			}
		}
		if one, two := tellAll(n, nil, nil), tellAll(n, [][]int{}, []int{}); one != two {
			t.Errorf("%d numbers: %s, then %s", n, one, two)
		}
	}
}

// numbers at which arithmetic and limits give way.
func numbers() []int {
	return []int{math.MinInt, math.MinInt + 1, -api.MaxNodes, -1, 0, 1, 2, 3, api.MaxNodes - 1, api.MaxNodes, api.MaxNodes + 1, 255, 256, math.MaxInt32, math.MaxInt}
}

func TestNoCallPanicsAndAnswersHangOnArgumentsAlone(t *testing.T) {
	for _, n := range append(numbers(), 1<<8, 1<<32, 1<<62) {
		for _, x := range numbers() {
			for _, y := range numbers() {
				for _, gens := range [][][]int{nil, {{x}}, {{x, y}}, {{1, 0}, {x, y}}, {{x, 1, y}, {1, 2, 0}}} {
					for _, p := range [][]int{nil, {x}, {y, x}, {1, x, y}} {
						if first, second := tellAll(n, gens, p), tellAll(n, gens, p); first != second {
							t.Errorf("%d %v %v: %s, then %s", n, gens, p, first, second)
						}
					}
				}
			}
		}
	}
	tellAll(3, make([][]int, 1000000), make([]int, 1000000))
	tellAll(3, [][]int{make([]int, 1000000)}, nil)
	for seed := range 100 {
		next := drawFrom(seed)
		n := next(30)
		gens := loose(n+1, next(6), 4, seed)
		if first, second := tellAll(n+1, gens, turn(n+1)), tellAll(n+1, gens, turn(n+1)); first != second {
			t.Errorf("%v: %s, then %s", gens, first, second)
		}
	}
}
