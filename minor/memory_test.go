package minor_test

import (
	"fmt"
	"math"
	"slices"
	"testing"

	"arbor/api"
)

// spare is a list with memory behind its length, in which odd things stand.
func spare[T any](l []T, odd T) []T { return append(slices.Clone(l), odd, odd)[:len(l)] }

// spoil writes over all memory of a list, also behind its length.
func spoil[T any](l []T, odd T) {
	for i := range l[:cap(l)] {
		l[:cap(l)][i] = odd
	}
}

// asked has pairs of graphs of all kinds of which something is answered, and some of which it is not.
func asked() [][2]api.Graph {
	all := [][2]api.Graph{{petersen(), full(5)}, {petersen(), full(6)}, {full(10), full(6)}, {ring(10), ring(6)}, {grid(3, 3), full(4)}, {groups(5, 5), full(6)}, {of(10), of(6)}, {of(0), of(0)}, {of(11), of(6)}, {of(10), of(7)}, {of(2, 0, 1, 1, 1), full(3)}, {full(3), of(3, 0, 3)}, {of(-1), of(-1)}, {full(6), full(6)}}
	for _, g := range small(4) {
		all = append(all, [2]api.Graph{g, full(3)}, [2]api.Graph{g, path(4)}, [2]api.Graph{ring(4), g})
	}
	for seed := range 60 {
		all = append(all, [2]api.Graph{mixed(10, 10+seed, seed), mixed(2+seed%5, 20+seed, seed+5000)})
	}
	return all
}

func TestListsAreOnlyReadAndAnswersAreNew(t *testing.T) {
	for _, was := range asked() {
		g := api.Graph{N: was[0].N, Edges: spare(was[0].Edges, [2]int{-7, -7})}
		h := api.Graph{N: was[1].N, Edges: spare(was[1].Edges, [2]int{-8, -8})}
		tellMemory := func() string { return fmt.Sprint(g.Edges[:len(g.Edges)+2], h.Edges[:len(h.Edges)+2]) }
		before := tellMemory()
		for _, c := range calls() {
			first, f := c.ask(g, h)
			told := fmt.Sprint(first, f)
			second, again := c.ask(g, h)
			wantApart(t, c.name, first)
			third, last := c.ask(was[0], was[1])
			if fmt.Sprint(second, again) != told || fmt.Sprint(third, last) != told {
				t.Errorf("%s of %v: %s, then %v, then %v", c.name, was, told, second, third)
			}
			if after := tellMemory(); after != before {
				t.Errorf("%s changed %s to %s", c.name, before, after)
			}
		}
	}
}

// wantApart writes over all memory of each list, and looks whether another one changes.
func wantApart(t *testing.T, name string, a answer) {
	t.Helper()
	for i, set := range a.sets {
		was := fmt.Sprint(a.sets[i+1:])
		spoil(set, -9)
		if fmt.Sprint(a.sets[i+1:]) != was {
			t.Errorf("%s: set %d shares memory with one behind it", name, i)
		}
	}
	spoil(a.sets, nil)
	spoil(a.to, -9)
}

// One list may be that of both graphs.
func TestListsThatAreShared(t *testing.T) {
	g := shuffled(groups(2, 2, 2), 3)
	h := api.Graph{N: 6, Edges: g.Edges[:7]}
	for _, pair := range [][2]api.Graph{{g, g}, {g, h}, {h, h}} {
		wantMinor(t, "a shared list", pair[0], pair[1], true)
		wantAccount(t, "a shared list", pair[0], pair[1])
	}
	wantMinor(t, "a shared list", h, g, false)
	wantAccount(t, "a shared list", h, g)
}

func TestListsWithoutElementsAreTheSame(t *testing.T) {
	sizes := []int{-1, 0, 1, 2, 6, 7, 10, 11, api.MaxNodes, api.MaxNodes + 1}
	for _, n := range sizes {
		for _, m := range sizes {
			one := tellAll(api.Graph{N: n}, api.Graph{N: m})
			two := tellAll(api.Graph{N: n, Edges: [][2]int{}}, api.Graph{N: m, Edges: [][2]int{}})
			if one != two {
				t.Errorf("%d and %d nodes: %s, then %s", n, m, one, two)
			}
		}
	}
}

// Calls side by side do not meet in anything.
func TestCallsSideBySide(t *testing.T) {
	all := asked()
	want := make([]string, len(all))
	for i, pair := range all {
		want[i] = tellAll(pair[0], pair[1])
	}
	t.Run("all", func(t *testing.T) {
		for i, pair := range all {
			t.Run(fmt.Sprint(i), func(t *testing.T) {
				t.Parallel()
				if got := tellAll(pair[0], pair[1]); got != want[i] {
					t.Errorf("%v: %s, want %s", pair, got, want[i])
				}
			})
		}
	})
}

// numbers at which arithmetic and limits give way.
func numbers() []int {
	return []int{math.MinInt, -1, 0, 1, 5, 6, 7, 9, 10, 11, 31, 32, 64, api.MaxNodes - 1, api.MaxNodes, api.MaxNodes + 1, 1 << 32, math.MaxInt}
}

func TestNoCallPanics(t *testing.T) {
	all := []api.Graph{{N: 3, Edges: make([][2]int, 100000)}, {N: math.MaxInt, Edges: make([][2]int, 1001)}}
	for _, n := range numbers() {
		all = append(all, of(n))
		for _, u := range numbers() {
			for _, v := range numbers() {
				all = append(all, of(n, 0, 1, u, v))
			}
		}
	}
	for _, g := range all {
		for _, other := range []api.Graph{of(0), path(2), full(6), of(11), of(-1)} {
			for _, pair := range [][2]api.Graph{{g, other}, {other, g}, {g, g}} {
				want := faultOf(pair[0], pair[1])
				for _, c := range calls() {
					if got, f := c.ask(pair[0], pair[1]); f != want || f != (api.Fault{}) && !got.isEmpty() {
						t.Errorf("%s of %d and %d nodes: %v %v, want %v", c.name, pair[0].N, pair[1].N, got, f, want)
					}
				}
			}
		}
	}
}
