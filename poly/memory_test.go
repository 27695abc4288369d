package poly_test

import (
	"fmt"
	"math"
	"slices"
	"testing"

	"arbor/api"
)

// spare is a list with memory behind its length, in which odd things stand.
func spare[T any](l []T, odd T) []T {
	return append(slices.Clone(l), odd, odd)[:len(l)]
}

// spoil writes over all memory of a list, also behind its length.
func spoil[T any](l []T, odd T) {
	for i := range l[:cap(l)] {
		l[:cap(l)][i] = odd
	}
}

// asked has graphs of all kinds of which something is answered, and some of which it is not.
func asked() []api.Graph {
	all := append(small(4), scrambled(ring(12)), full(12), petersen(), of(12), of(100), path(13), groups(2, 2, 2), icosahedron(), of(2, 0, 1, 1, 1), of(-1), of(3, 0, 3), full(13))
	for seed := range 40 {
		all = append(all, mixed(12, 10+seed, seed), drawn(10+seed, 12, seed))
	}
	return all
}

func TestListsAreOnlyReadAndAnswersAreNew(t *testing.T) {
	for _, was := range asked() {
		g := api.Graph{N: was.N, Edges: spare(was.Edges, [2]int{-7, -7})}
		whole := g.Edges[:len(g.Edges)+2]
		before := fmt.Sprint(whole)
		for _, c := range calls() {
			first, f := c.ask(g)
			told := fmt.Sprint(first, f)
			second, again := c.ask(g)
			wantApart(t, c.name, first)
			third, last := c.ask(was)
			if fmt.Sprint(second, again) != told || fmt.Sprint(third, last) != told {
				t.Errorf("%s of %v: %s, then %v, then %v", c.name, was, told, second, third)
			}
			if after := fmt.Sprint(whole); after != before {
				t.Errorf("%s changed %s to %s", c.name, before, after)
			}
		}
	}
}

// wantApart writes over all memory of each list, and looks whether another one changes.
func wantApart(t *testing.T, name string, a answer) {
	t.Helper()
	for i, row := range a.table {
		was := fmt.Sprint(a.table[i+1:])
		spoil(row, -9)
		if fmt.Sprint(a.table[i+1:]) != was {
			t.Errorf("%s: row %d shares memory with one behind it", name, i)
		}
	}
	spoil(a.table, nil)
	spoil(a.list, -9)
}

func TestListsWithoutElementsAreTheSame(t *testing.T) {
	for _, n := range []int{-1, 0, 1, 2, 3, api.MaxSmall, api.MaxSmall + 1, api.MaxNodes, api.MaxNodes + 1} {
		one, two := tellAll(api.Graph{N: n}), tellAll(api.Graph{N: n, Edges: [][2]int{}})
		if one != two {
			t.Errorf("%d nodes: %s, then %s", n, one, two)
		}
	}
}

// Calls side by side do not meet in anything.
func TestCallsSideBySide(t *testing.T) {
	all := asked()
	want := make([]string, len(all))
	for i, g := range all {
		want[i] = tellAll(g)
	}
	t.Run("all", func(t *testing.T) {
		for i, g := range all {
			t.Run(fmt.Sprint(i), func(t *testing.T) {
				t.Parallel()
				if got := tellAll(g); got != want[i] {
					t.Errorf("%v: %s, want %s", g, got, want[i])
				}
			})
		}
	})
}

// numbers at which arithmetic and limits give way.
func numbers() []int {
	return []int{math.MinInt, -2, -1, 0, 1, 2, 3, api.MaxSmall - 1, api.MaxSmall, api.MaxSmall + 1, 31, 32, 63, 64, api.MaxNodes - 1, api.MaxNodes, api.MaxNodes + 1, math.MaxInt}
}

func TestNoCallPanics(t *testing.T) {
	all := []api.Graph{{N: 3, Edges: make([][2]int, 100000)}, {N: math.MaxInt, Edges: make([][2]int, 1001)}}
	for _, n := range numbers() {
		all = append(all, of(n))
		for _, u := range numbers() {
			for _, v := range numbers() {
				all = append(all, of(n, u, v), of(n, 0, 1, u, v))
			}
		}
	}
	for _, g := range all {
		for _, c := range calls() {
			want := faultOf(c, g)
			if got, f := c.ask(g); f != want || f != (api.Fault{}) && !got.isEmpty() {
				t.Errorf("%s of %d nodes: %v %v, want %v", c.name, g.N, got, f, want)
			}
		}
	}
}
