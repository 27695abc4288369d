package names_test

import (
	"fmt"
	"strconv"
	"testing"

	"arbor/api"
	"arbor/names"
	"arbor/trees"
)

func TestCanonOfExamples(t *testing.T) {
	wantSame(t, "two paths", of(3, 0, 1, 1, 2), of(3, 0, 2, 2, 1), true)
	wantSame(t, "a path and a triangle", path(3), ring(3), false)
}

func TestCanonOfFewNodes(t *testing.T) {
	for _, c := range []struct {
		g    api.Graph
		want string // only one graph can be it
	}{
		{of(0), "{0 []}"}, {of(1), "{1 []}"}, {of(2), "{2 []}"}, {of(2, 0, 1), "{2 [[0 1]]}"}, {of(2, 1, 0), "{2 [[0 1]]}"}, {of(3), "{3 []}"}, {of(3, 2, 1, 0, 1, 2, 0), "{3 [[0 1] [0 2] [1 2]]}"}, {of(limit), "{24 []}"},
	} {
		if got := fmt.Sprint(mustCanon(t, "few nodes", c.g)); got != c.want {
			t.Errorf("Canon of %v: %s, want %s", c.g, got, c.want)
		}
	}
	if got := mustCanon(t, "all edges", shuffled(full(limit), 1)); !equal(got, full(limit)) {
		t.Errorf("Canon of all edges: %v", got)
	}
}

// Two graphs have one Canon just where one of all permutations takes the one to the other.
func TestCanonOfAllSmallGraphs(t *testing.T) {
	for n, kinds := range []int{1, 1, 2, 4, 11, 34} {
		all := permutations(n)
		first := map[string]api.Graph{}
		for _, g := range small(n) {
			canon := mustCanon(t, "a small graph", g)
			told := fmt.Sprint(canon)
			if first[told].N == 0 {
				first[told] = g
			}
			if !someTakes(all, g, first[told]) {
				t.Errorf("Canon of %v and of %v: %v", g, first[told], canon)
			}
		}
		if len(first) != kinds {
			t.Errorf("%d nodes: %d Canons, want %d", n, len(first), kinds)
		}
	}
}

// Of each kind there are as many graphs as all permutations make of one: so many as there are, by how many keep it.
func TestCanonAndTurnsOfAllGraphsOfSixNodes(t *testing.T) {
	many, order := map[string]int{}, map[string]string{}
	for _, g := range small(6) {
		told := fmt.Sprint(mustCanon(t, "a graph of six nodes", g))
		if many[told] == 0 {
			order[told] = mustTurns(t, "a graph of six nodes", g)
		}
		many[told]++
	}
	if len(many) != 156 {
		t.Errorf("six nodes: %d Canons, want 156", len(many))
	}
	for told, graphs := range many {
		if keep, _ := strconv.Atoi(order[told]); keep*graphs != 720 {
			t.Errorf("%d graphs have Canon %s, and %d permutations keep it: want 720 in all", graphs, told, keep)
		}
	}
}

// The Canon of a Canon is itself, whatever numbers it had.
func TestCanonOfFamilies(t *testing.T) {
	for _, f := range families() {
		canon := mustCanon(t, f.name, f.g)
		for seed := range 3 {
			if got := mustCanon(t, f.name, shuffled(f.g, seed)); !equal(got, canon) {
				t.Errorf("Canon of %s: %v, shuffled %v", f.name, canon, got)
			}
		}
		if got := mustCanon(t, f.name, canon); !equal(got, canon) {
			t.Errorf("Canon of the Canon of %s: %v, then %v", f.name, canon, got)
		}
	}
}

// Where a plane meets another one in any way, there are four kinds, and these many of each; the permutations that keep a plane and those that take the pair to itself tell how many.
func TestCanonOfAllPairsOfPlanes(t *testing.T) {
	for name, build := range map[string]func(names []int) api.Graph{"twoPlanes": twoPlanes, "planeAndRest": planeAndRest} {
		many := map[string]int{}
		for i, p := range permutations(7) {
			many[fmt.Sprint(mustCanon(t, name, shuffled(build(p), i)))]++
		}
		kinds := map[int]bool{}
		for _, graphs := range many {
			kinds[graphs] = true
		}
		if len(many) != 4 || !kinds[168] || !kinds[1176] || !kinds[1344] || !kinds[2352] {
			t.Errorf("%s: %d Canons, of %v graphs, want 168, 1176, 1344 and 2352", name, len(many), kinds)
		}
	}
}

func TestCanonOfMixedGraphs(t *testing.T) {
	for seed := range 300 {
		g := mixed(limit-seed%15, 2+seed%97, seed)
		canon := mustCanon(t, "a mixed graph", g)
		if got := mustCanon(t, "a mixed graph", shuffled(g, seed)); !equal(got, canon) {
			t.Errorf("Canon of %v: %v, shuffled %v", g, canon, got)
		}
	}
}

// trees.Canon tells of trees what there is to tell.
func TestCanonOfTrees(t *testing.T) {
	text, tree := map[string]string{}, map[string]string{}
	for seed := range 3000 {
		next := drawFrom(seed)
		n := 3 + next(8)
		g, _ := trees.Tree(made(n-2, func(int) int { return next(n) }))
		canon, told := fmt.Sprint(mustCanon(t, "a tree", g)), ""
		told, _ = trees.Canon(g)
		if text[canon] == "" && tree[told] == "" {
			text[canon], tree[told] = told, canon
		}
		if text[canon] != told || tree[told] != canon {
			t.Errorf("Canon of %v: %s, of trees: %s, want as before: %s, %s", g, canon, told, tree[told], text[canon])
		}
	}
	if len(tree) < 100 {
		t.Errorf("%d kinds of trees: too few are tried", len(tree))
	}
}

// What is asked ahead of it changes nothing.
func TestCanonHangsOnTheGraphAlone(t *testing.T) {
	first := mustCanon(t, "Petersen's", petersen())
	for _, f := range famousFamilies() {
		mustCanon(t, f.name, f.g)
		if again, _, _ := names.Canon(petersen()); !equal(first, again) {
			t.Errorf("Canon of Petersen's: %v, behind %s %v", first, f.name, again)
		}
	}
}
