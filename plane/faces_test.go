package plane_test

import (
	"fmt"
	"math"
	"slices"
	"testing"

	"arbor/api"
	"arbor/plane"
)

// wantFaces: those of the second account.
func wantFaces(t *testing.T, g api.Graph, round [][]int) {
	t.Helper()
	got, f := plane.Faces(g, round)
	want := walksOf(facesOf(round))
	if f != (api.Fault{}) || fmt.Sprint(got) != fmt.Sprint(want) {
		t.Errorf("Faces of %v with %v: %v %v, want %v", g, round, got, f, want)
	}
}

func TestFacesByHand(t *testing.T) {
	for _, c := range []struct {
		name  string
		g     api.Graph
		round [][]int
		want  string
	}{
		{"no nodes", of(0), nil, "[]"},
		{"a node", of(1), [][]int{{}}, "[]"},
		{"nodes", of(3), [][]int{nil, {}, nil}, "[]"},
		{"an edge", of(2, 1, 0), [][]int{{1}, {0}}, "[[0 1]]"},
		{"an edge far off", of(4, 3, 2), [][]int{{}, {}, {3}, {2}}, "[[2 3]]"},
		{"a path", of(3, 0, 1, 1, 2), [][]int{{1}, {2, 0}, {1}}, "[[0 1 2 1]]"},
		{"a path with its middle first", of(3, 0, 1, 0, 2), [][]int{{2, 1}, {0}, {0}}, "[[0 1 0 2]]"},
		{"a star", star(4), [][]int{{1, 2, 3}, {0}, {0}, {0}}, "[[0 1 0 2 0 3]]"},
		{"a star the other way round", star(4), [][]int{{3, 2, 1}, {0}, {0}, {0}}, "[[0 1 0 3 0 2]]"},
		{"a triangle", ring(3), [][]int{{1, 2}, {2, 0}, {0, 1}}, "[[0 1 2] [0 2 1]]"},
		{"a triangle and an edge", of(5, 0, 1, 1, 2, 2, 0, 3, 4), [][]int{{1, 2}, {2, 0}, {0, 1}, {4}, {3}}, "[[0 1 2] [0 2 1] [3 4]]"},
		{"two triangles at a node, one beside the other", of(5, 0, 1, 1, 2, 2, 0, 2, 3, 3, 4, 4, 2), [][]int{{1, 2}, {2, 0}, {0, 1, 3, 4}, {4, 2}, {2, 3}}, "[[0 1 2 3 4 2] [0 2 1] [2 4 3]]"},
		{"two triangles at a node, not in the plane", of(5, 0, 1, 1, 2, 2, 0, 2, 3, 3, 4, 4, 2), [][]int{{1, 2}, {2, 0}, {0, 3, 1, 4}, {4, 2}, {2, 3}}, "[[0 1 2 4 3 2 1 0 2 3 4 2]]"},
		{"four", full(4), [][]int{{1, 2, 3}, {0, 3, 2}, {0, 1, 3}, {0, 2, 1}}, "[[0 1 3] [0 2 1] [0 3 2] [1 2 3]]"},
		{"four, not in the plane", full(4), [][]int{{1, 3, 2}, {0, 3, 2}, {0, 1, 3}, {0, 2, 1}}, "[[0 1 3 0 2 1 0 3 2] [1 2 3]]"},
	} {
		got, f := plane.Faces(c.g, c.round)
		if f != (api.Fault{}) || fmt.Sprint(got) != c.want {
			t.Errorf("Faces of %s: %v %v, want %s", c.name, got, f, c.want)
		}
		wantFaces(t, c.g, c.round)
		wantFaces(t, scrambled(c.g), c.round)
	}
}

// eachRound goes through all orders round the nodes, each list beginning with the least node.
func eachRound(g api.Graph, see func(round [][]int)) {
	round := make([][]int, g.N)
	var from func(v int)
	from = func(v int) {
		if v == g.N {
			see(round)
			return
		}
		near := nearOf(g, v)
		first := min(1, len(near))
		eachList(near[first:], func(l []int) {
			round[v] = slices.Concat(near[:first], l)
			from(v + 1)
		})
	}
	from(0)
}

// eachList goes through all orders of a list.
func eachList(l []int, see func(l []int)) {
	if len(l) == 0 {
		see(nil)
		return
	}
	for i, v := range l {
		rest := slices.Delete(slices.Clone(l), i, i+1)
		eachList(rest, func(behind []int) { see(append([]int{v}, behind...)) })
	}
}

func TestFacesOfAllOrdersOfSmallGraphs(t *testing.T) {
	for n := range 5 {
		for _, g := range small(n) {
			eachRound(g, func(round [][]int) {
				wantFaces(t, g, round)
				wantFaces(t, scrambled(g), begunElsewhere(round))
			})
		}
	}
}

// What follows: of all orders of graphs that Embed calls bad none is plane, and of the others one is.
func TestOrdersOfSmallGraphs(t *testing.T) {
	for _, g := range append(small(4), full(5), without(full(5), 0, 1), wheel(4, 1), sides(3, 3), without(sides(3, 3), 1, 4), twisted(4), prism(3), cube(3), longer(sides(3, 3), 9), sides(2, 4)) {
		planes := 0
		eachRound(g, func(round [][]int) {
			if isPlaneOrder(g, round) {
				planes++
			}
		})
		if isThere := wantEither(t, "a graph", g); isThere != (planes > 0) {
			t.Errorf("Embed of %v: %v, but %d orders are plane", g, isThere, planes)
		}
	}
}

// mixedRound is an order round the nodes that is not chosen by hand.
func mixedRound(g api.Graph, seed int) [][]int {
	draw := drawFrom(seed)
	round := make([][]int, g.N)
	for v := range round {
		near := nearOf(g, v)
		for _, i := range deck(len(near), draw) {
			round[v] = append(round[v], near[i])
		}
	}
	return round
}

// begunElsewhere is the same order, but its lists begin with other nodes.
func begunElsewhere(round [][]int) [][]int {
	var out [][]int
	for v, l := range round {
		if len(l) > 0 {
			at := v % len(l)
			l = slices.Concat(l[at:], l[:at])
		}
		out = append(out, l)
	}
	return out
}

func TestFacesOfMixedOrders(t *testing.T) {
	for seed := range 500 {
		g := mixed(3+seed%20, 3+seed%90, seed)
		round := mixedRound(g, seed)
		wantFaces(t, g, round)
		got, _ := plane.Faces(g, round)
		if again, _ := plane.Faces(scrambled(g), begunElsewhere(round)); fmt.Sprint(again) != fmt.Sprint(got) {
			t.Errorf("Faces of %v with %v: %v, and with lists that begin elsewhere %v", g, round, got, again)
		}
	}
}

func TestFacesOfGreatGraphs(t *testing.T) {
	for i, g := range great() {
		if len(g.Edges) < 400 || i%7 == 0 {
			wantFaces(t, g, mixedRound(g, i))
		}
	}
	for seed := range 10 {
		g := packed(api.MaxNodes, seed*30, seed)
		round, _, _ := plane.Embed(g)
		if got, f := plane.Faces(g, round); len(got) != 2*api.MaxNodes-4 || f != (api.Fault{}) {
			t.Errorf("%d faces, %v, of a packed graph", len(got), f)
		}
		wantFaces(t, g, round)
	}
}

func TestFacesOfPlaneOrders(t *testing.T) {
	for _, c := range []struct {
		name string
		g    api.Graph
		want int
	}{
		{"four", full(4), 4}, {"a cube", cube(3), 6}, {"pairs", groups(3, 2), 8}, {"twenty", twenty(), 12}, {"a grid", grid(10, 10), 82}, {"a ring", ring(100), 2}, {"a tree", star(100), 1}, {"two rings", nextTo(ring(50), ring(50)), 4}, {"rings at a node", atNode(ring(9), ring(9), 4), 3}, {"fours at fours", chain(full(4), 33), 100}, {"no edges", of(100), 0},
	} {
		round, _, _ := plane.Embed(shuffled(c.g, 5))
		if got, f := plane.Faces(shuffled(c.g, 5), round); len(got) != c.want || f != (api.Fault{}) {
			t.Errorf("%s: %d faces %v, %v, want %d", c.name, len(got), got, f, c.want)
		}
	}
}

func TestFacesFaults(t *testing.T) {
	good := [][]int{{1}, {0, 2}, {1}, {}}
	g := of(4, 1, 0, 2, 1)
	list := func(v int, l ...int) [][]int {
		round := slices.Clone(good)
		round[v] = l
		return round
	}
	for _, c := range []struct {
		name  string
		g     api.Graph
		round [][]int
		want  api.Fault
	}{
		{"no lists", g, nil, fault(api.ErrSize, 0)},
		{"no lists of loose nodes", of(3), [][]int{}, fault(api.ErrSize, 0)},
		{"one list too few", g, good[:3], fault(api.ErrSize, 0)},
		{"one list too many", g, append(slices.Clone(good), nil), fault(api.ErrSize, 0)},
		{"a list for no nodes", of(0), [][]int{{}}, fault(api.ErrSize, 0)},
		{"too few, and wrong", g, [][]int{{7}, {0, 2}, {1}}, fault(api.ErrSize, 0)},
		{"none near the first", g, list(0), fault(api.ErrForm, 0)},
		{"one is missing", g, list(1, 2), fault(api.ErrForm, 1)},
		{"the other one is missing", g, list(1, 0), fault(api.ErrForm, 1)},
		{"one twice", g, list(1, 2, 2), fault(api.ErrForm, 1)},
		{"one twice, and both there", g, list(1, 2, 0, 2), fault(api.ErrForm, 1)},
		{"one that is not near", g, list(1, 0, 3), fault(api.ErrForm, 1)},
		{"one too many that is not near", g, list(1, 0, 2, 3), fault(api.ErrForm, 1)},
		{"itself", g, list(2, 2), fault(api.ErrForm, 2)},
		{"the last has none", g, list(3, 0), fault(api.ErrForm, 3)},
		{"the last has itself", g, list(3, 3), fault(api.ErrForm, 3)},
		{"below 0", g, list(2, -1), fault(api.ErrForm, 2)},
		{"no node", g, list(2, 4), fault(api.ErrForm, 2)},
		{"far below 0", g, list(2, math.MinInt), fault(api.ErrForm, 2)},
		{"far above", g, list(2, math.MaxInt), fault(api.ErrForm, 2)},
		{"a word further", g, list(2, 65), fault(api.ErrForm, 2)},
		{"two words further", g, list(2, 129), fault(api.ErrForm, 2)},
		{"one more than nodes can be", g, list(2, 1, api.MaxNodes), fault(api.ErrForm, 2)},
		{"very long", g, list(1, slices.Repeat([]int{0, 2}, 100000)...), fault(api.ErrForm, 1)},
		{"the first of two", g, [][]int{{1}, {2}, {0}, {1}}, fault(api.ErrForm, 1)},
		{"the last of 100", path(100), append(mixedRound(path(100), 1)[:99], []int{97}), fault(api.ErrForm, 99)},
		{"wrong graph ahead of the size", of(2, 0, 0), nil, fault(api.ErrLoop, 0)},
		{"wrong graph ahead of the form", of(2, 0, 1, 1, 0), [][]int{{3}, {3}}, fault(api.ErrTwice, 1)},
	} {
		lists, f := plane.Faces(c.g, c.round)
		wantFault(t, "Faces of "+c.name, answer{lists: lists}, f, c.want)
	}
	if lists, f := plane.Faces(g, good); fmt.Sprint(lists, f) != "[[0 1 2 1]] {0 0}" {
		t.Errorf("Faces of what is not wrong: %v %v", lists, f)
	}
}
