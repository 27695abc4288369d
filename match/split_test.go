package match_test

import (
	"fmt"
	"testing"

	"arbor/api"
	"arbor/match"
)

// splitByMost asks Most, whose answers show that they are right, of the graph without each of its nodes.
func splitByMost(t *testing.T, g api.Graph) (d, a, c []int) {
	t.Helper()
	most := wantMost(t, g)
	alone := make([]bool, g.N)
	for v := range g.N {
		pairs, _, _ := match.Most(without(g, []int{v}))
		alone[v] = len(pairs) == most
	}
	return splitBy(g, alone)
}

func TestSplitByHand(t *testing.T) {
	for _, x := range []struct {
		name string
		g    api.Graph
		want string
	}{
		{"nothing", of(0), "[] [] []"},
		{"a node", of(1), "[0] [] []"},
		{"two nodes", of(2), "[0 1] [] []"},
		{"an edge", of(2, 1, 0), "[] [] [0 1]"},
		{"an edge and a node", of(3, 2, 1), "[0] [] [1 2]"},
		{"a path of three", path(3), "[0 2] [1] []"},
		{"a ring of three", ring(3), "[0 1 2] [] []"},
		{"a ring of four", ring(4), "[] [] [0 1 2 3]"},
		{"a star with three leaves", star(4), "[1 2 3] [0] []"},
		{"a star, the middle last", of(4, 3, 2, 3, 1, 0, 3), "[0 1 2] [3] []"},
		{"a star and an edge", of(6, 0, 1, 0, 2, 0, 3, 4, 5), "[1 2 3] [0] [4 5]"},
		{"a path of three that hangs at the middle", of(6, 0, 1, 0, 2, 0, 3, 3, 4, 4, 5), "[1 2 3 5] [0 4] []"},
		{"an edge that hangs at the middle", of(5, 0, 1, 0, 2, 0, 3, 3, 4), "[1 2] [0] [3 4]"},
		{"a node with two triangles", of(7, 0, 1, 1, 2, 2, 0, 3, 4, 4, 5, 5, 3, 6, 0, 6, 3), "[0 1 2 3 4 5] [6] []"},
		{"two edges within a", of(6, 0, 1, 0, 2, 0, 3, 1, 4, 1, 5), "[2 3 4 5] [0 1] []"},
		{"Petersen's graph", petersen(), "[] [] [0 1 2 3 4 5 6 7 8 9]"},
		{"three on one side, two on the other", twoSides(3, 2), "[0 1 2] [3 4] []"},
		{"two rings, one odd", beside(ring(4), ring(5)), "[4 5 6 7 8] [] [0 1 2 3]"},
	} {
		for _, g := range []api.Graph{x.g, scrambled(x.g)} {
			d, a, c, f := match.Split(g)
			same(t, "Split, "+x.name, fmt.Sprint(d, a, c), x.want, f)
		}
	}
}

func TestSplit(t *testing.T) {
	for _, g := range small(5) {
		want := accountOf(g)
		d, a, c, f := match.Split(scrambled(g))
		same(t, fmt.Sprint("Split of ", g), fmt.Sprint(d, a, c), fmt.Sprint(want.d, want.a, want.c), f)
	}
	for _, g := range append(small(6), append(medium(), great()...)...) {
		d, a, c, f := match.Split(g)
		same(t, fmt.Sprint("Split of ", g), fmt.Sprint(d, a, c), fmt.Sprint(splitByMost(t, g)), f)
	}
}
