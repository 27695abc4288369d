package colour_test

import (
	"fmt"
	"math"
	"slices"
	"testing"

	"arbor/api"
)

// spare is a list with memory behind its length, in which odd things stand.
func spare[T any](l []T, odd T) []T {
	return append(slices.Clone(l), odd, odd)[:len(l)]
}

// spoil writes over all memory of a list, also behind its length.
func spoil[T any](l []T, odd T) {
	for i := range l[:cap(l)] {
		l[:cap(l)][i] = odd
	}
}

func wholeOf[T any](l []T) []T { return l[:len(l)+2] }

func TestListsAreOnlyReadAndAnswersAreNew(t *testing.T) {
	all := append(small(4), scrambled(ring(6)), full(5), petersen(), scrambled(path(7)), star(6), scrambled(grid(3, 4)), of(2, 0, 1, 1, 1), layers(4, 3), petals(1, 4), necklace(3, 3))
	for seed := range 60 {
		all = append(all, mixed(12, 10+seed, seed))
	}
	for _, g := range all {
		for _, c := range calls() {
			wantNew(t, c, g)
		}
	}
}

func wantNew(t *testing.T, c call, was api.Graph) {
	t.Helper()
	g := api.Graph{N: was.N, Edges: spare(was.Edges, [2]int{-7, -7})}
	before := fmt.Sprint(wholeOf(g.Edges))
	first, f := c.ask(g)
	second, again := c.ask(g)
	told := fmt.Sprint(first, f)
	spoil(first.list, -9)
	third, _ := c.ask(g)
	if fmt.Sprint(second, again) != told || fmt.Sprint(third, f) != told {
		t.Errorf("%s of %v: %s, then %v, then %v", c.name, was, told, second, third)
	}
	if after := fmt.Sprint(wholeOf(g.Edges)); after != before {
		t.Errorf("%s changed %s to %s", c.name, before, after)
	}
}

func TestListsWithoutElementsAreTheSame(t *testing.T) {
	for _, n := range []int{-1, 0, 1, 2, 3, api.MaxSmall, api.MaxNodes, api.MaxNodes + 1} {
		one, two := api.Graph{N: n}, api.Graph{N: n, Edges: [][2]int{}}
		if tellAll(one) != tellAll(two) {
			t.Errorf("%d nodes: %s, then %s", n, tellAll(one), tellAll(two))
		}
	}
}

// numbers at which arithmetic and limits give way.
func numbers() []int {
	return []int{math.MinInt, -1, 0, 1, 2, api.MaxSmall, api.MaxSmall + 1, 31, 32, 33, 63, 64, 65, api.MaxNodes - 1, api.MaxNodes, api.MaxNodes + 1, math.MaxInt}
}

func TestNoCallPanicsAndAnswersHangOnArgumentsAlone(t *testing.T) {
	all := append(great(), even()...)
	all = append(all, api.Graph{N: 3, Edges: make([][2]int, 100000)})
	for _, n := range numbers() {
		for _, u := range numbers() {
			for _, v := range numbers() {
				all = append(all, of(n, 0, 1, u, v), of(n, u, v))
			}
		}
	}
	for _, g := range all {
		if first, second := tellAll(g), tellAll(g); first != second {
			t.Errorf("%v: %s, then %s", g, first, second)
		}
	}
}
