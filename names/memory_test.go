package names_test

import (
	"fmt"
	"math"
	"slices"
	"testing"

	"arbor/api"
	"arbor/names"
)

// some has n nodes and the first m pairs of them, in form.
func some(n, m int) api.Graph { return api.Graph{N: n, Edges: full(n).Edges[:m]} }

// wrong has graphs with what is to be told of them.
func wrong() []struct {
	name string
	g    api.Graph
	want api.Fault
} {
	return []struct {
		name string
		g    api.Graph
		want api.Fault
	}{
		{"fewer nodes than none", of(-1), fault(api.ErrMany, 0)},
		{"far fewer nodes than none", of(math.MinInt, 0, 1), fault(api.ErrMany, 0)},
		{"more nodes than any graph has", of(api.MaxNodes + 1), fault(api.ErrMany, 0)},
		{"far more nodes than any graph has", of(math.MaxInt, 0, 0), fault(api.ErrMany, 0)},
		{"more edges than any graph has", some(api.MaxNodes, api.MaxEdges+1), fault(api.ErrMany, 0)},
		{"more edges than any graph has, all the same", api.Graph{N: 3, Edges: make([][2]int, api.MaxEdges+1)}, fault(api.ErrMany, 0)},
		{"one node too many", of(limit + 1), fault(api.ErrMany, 0)},
		{"one node too many, and edges", ring(limit + 1), fault(api.ErrMany, 0)},
		{"many nodes too many", of(api.MaxNodes), fault(api.ErrMany, 0)},
		{"as many nodes and edges as any graph has", some(api.MaxNodes, api.MaxEdges), fault(api.ErrMany, 0)},
		{"no node", of(3, 0, 1, 1, 3), fault(api.ErrRange, 1)},
		{"no node, of none", of(0, 0, 1), fault(api.ErrRange, 0)},
		{"no node, of as many as may be", with(ring(limit), 0, limit), fault(api.ErrRange, limit)},
		{"below 0", of(3, 0, 1, 1, 2, -1, 2), fault(api.ErrRange, 2)},
		{"no node, twice the same", of(3, 0, 1, 5, 5), fault(api.ErrRange, 1)},
		{"a loop", of(3, 0, 1, 2, 2), fault(api.ErrLoop, 1)},
		{"twice", of(3, 0, 1, 1, 2, 0, 1), fault(api.ErrTwice, 2)},
		{"twice, the other way round", of(3, 0, 1, 1, 0), fault(api.ErrTwice, 1)},
		{"the first of several", of(3, 0, 1, 2, 2, 0, 1, 0, 7), fault(api.ErrLoop, 1)},
		{"no node, and one node too many", of(limit+1, 0, 1, 1, limit+1), fault(api.ErrRange, 1)},
		{"a loop, and one node too many", of(limit+1, 0, 1, 1, 1), fault(api.ErrLoop, 1)},
		{"twice, and one node too many", with(ring(limit+1), 1, 0), fault(api.ErrTwice, limit+1)},
		{"a loop, and many nodes too many", of(api.MaxNodes, 99, 99), fault(api.ErrLoop, 0)},
		{"all edges and one more", with(full(limit), 3, 2), fault(api.ErrTwice, len(full(limit).Edges))},
	}
}

func TestFaults(t *testing.T) {
	for _, w := range wrong() {
		for _, c := range calls() {
			if got, f := c.ask(w.g); f != w.want || !got.isEmpty() {
				t.Errorf("%s of %s: %v %v, want nothing and %v", c.name, w.name, got, f, w.want)
			}
		}
	}
}

// Same tells all that is wrong with a, also that it has too many nodes, ahead of what is wrong with b.
func TestFaultsOfTwo(t *testing.T) {
	for _, a := range wrong() {
		for _, b := range wrong() {
			if to, ok, f := names.Same(a.g, b.g); f != a.want || ok || len(to) > 0 {
				t.Errorf("Same of %s and %s: %v %v %v, want nothing and %v", a.name, b.name, to, ok, f, a.want)
			}
		}
		for _, right := range []api.Graph{of(0), of(min(max(a.g.N, 0), limit)), ring(limit)} {
			if to, ok, f := names.Same(right, a.g); f != a.want || ok || len(to) > 0 {
				t.Errorf("Same of a right one and %s: %v %v %v, want nothing and %v", a.name, to, ok, f, a.want)
			}
			if to, ok, f := names.Same(a.g, right); f != a.want || ok || len(to) > 0 {
				t.Errorf("Same of %s and a right one: %v %v %v, want nothing and %v", a.name, to, ok, f, a.want)
			}
		}
	}
}

func TestAsManyNodesAsMayBe(t *testing.T) {
	for _, g := range []api.Graph{of(limit), path(limit), ring(limit), full(limit)} {
		for _, c := range calls() {
			if _, f := c.ask(g); f != (api.Fault{}) {
				t.Errorf("%s of %d nodes: %v", c.name, g.N, f)
			}
		}
	}
}

// spare is a list with memory behind its length, in which odd things stand.
func spare[T any](l []T, odd T) []T { return append(slices.Clone(l), odd, odd)[:len(l)] }

// spoil writes over all memory of a list, also behind its length.
func spoil[T any](l []T, odd T) {
	for i := range l[:cap(l)] {
		l[:cap(l)][i] = odd
	}
}

func TestListsAreOnlyReadAndAnswersAreNew(t *testing.T) {
	all := append(small(4), of(0), of(2, 0, 1, 1, 1), of(limit+1))
	for seed, f := range families() {
		if f.g.N < 15 {
			all = append(all, f.g, shuffled(f.g, seed))
		}
	}
	for seed := range 40 {
		all = append(all, mixed(12, 10+2*seed, seed))
	}
	for _, g := range all {
		for _, c := range calls() {
			wantNew(t, c, g)
		}
	}
}

func wantNew(t *testing.T, c call, was api.Graph) {
	t.Helper()
	g := api.Graph{N: was.N, Edges: spare(was.Edges, [2]int{-7, -7})}
	before := fmt.Sprint(g.Edges[:len(g.Edges)+2])
	first, f := c.ask(g)
	told := fmt.Sprint(first, f)
	spoil(first.canon.Edges, [2]int{-9, -9})
	if after := fmt.Sprint(g.Edges[:len(g.Edges)+2]); after != before {
		t.Fatalf("%s changed %s to %s", c.name, before, after)
	}
	spoil(first.to, -9)
	for i, p := range first.gens {
		left := fmt.Sprint(first.gens[i+1:])
		spoil(p, -9)
		if fmt.Sprint(first.gens[i+1:]) != left {
			t.Errorf("%s of %v: list %d shares memory with %s", c.name, was, i, left)
		}
	}
	second, again := c.ask(g)
	if fmt.Sprint(second, again) != told {
		t.Errorf("%s of %v: %s, then %v", c.name, was, told, second)
	}
	if after := fmt.Sprint(g.Edges[:len(g.Edges)+2]); after != before {
		t.Errorf("%s changed %s to %s", c.name, before, after)
	}
}

// One list may be that of both graphs.
func TestListsThatAreShared(t *testing.T) {
	g := shuffled(petersen(), 3)
	if to, ok, f := names.Same(g, g); !ok || !takes(to, g, g) || f != (api.Fault{}) {
		t.Errorf("Same of a graph and itself: %v %v %v", to, ok, f)
	}
	a, b := api.Graph{N: 10, Edges: g.Edges[:9]}, api.Graph{N: 10, Edges: g.Edges[:10]}
	if to, ok, f := names.Same(a, b); ok || len(to) > 0 || f != (api.Fault{}) {
		t.Errorf("Same of a graph and one with an edge more: %v %v %v", to, ok, f)
	}
}

func TestListsWithoutElementsAreTheSame(t *testing.T) {
	for _, n := range []int{-1, 0, 1, 2, 3, limit, limit + 1, api.MaxNodes, api.MaxNodes + 1} {
		one, two := api.Graph{N: n}, api.Graph{N: n, Edges: [][2]int{}}
		if tellAll(one) != tellAll(two) {
			t.Errorf("%d nodes: %s, then %s", n, tellAll(one), tellAll(two))
		}
		if _, ok, _ := names.Same(one, two); ok != (n >= 0 && n <= limit) {
			t.Errorf("Same of %d nodes, with no list and with an empty one: %v", n, ok)
		}
	}
}

// numbers at which arithmetic and limits give way.
func numbers() []int {
	return []int{math.MinInt, -1, 0, 1, limit - 1, limit, limit + 1, 31, 32, 33, 64, api.MaxNodes, 1 << 32, math.MaxInt}
}

func TestNoCallPanicsAndAnswersHangOnArgumentsAlone(t *testing.T) {
	all := []api.Graph{{N: 3, Edges: make([][2]int, 100000)}, {N: limit, Edges: make([][2]int, 100000)}}
	for _, n := range numbers() {
		for _, u := range numbers() {
			for _, v := range numbers() {
				all = append(all, of(n, 0, 1, u, v), of(n, u, v))
			}
		}
	}
	for _, g := range all {
		if first, second := tellAll(g), tellAll(g); first != second {
			t.Errorf("%v: %s, then %s", g, first, second)
		}
	}
}
