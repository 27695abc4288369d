package minor_test

import (
	"testing"

	"arbor/api"
	"arbor/minor"
)

// wantMinor: the sets themselves show that there are such; that there are none, the caller knows.
func wantMinor(t *testing.T, name string, g, h api.Graph, want bool) {
	t.Helper()
	sets, ok, f := minor.Minor(g, h)
	if ok != want || f != (api.Fault{}) || ok && !areSets(g, h, sets) || !ok && len(sets) > 0 {
		t.Errorf("Minor, %s, of %v and %v: %v %v %v, want %v", name, g, h, sets, ok, f, want)
	}
}

// isIn asks Minor, and looks at what it answers.
func isIn(t *testing.T, g, h api.Graph) bool {
	t.Helper()
	_, ok, _ := minor.Minor(g, h)
	wantMinor(t, "a graph", g, h, ok)
	return ok
}

func TestMinorByHand(t *testing.T) {
	for _, c := range []struct {
		name string
		g, h api.Graph
		want bool
	}{
		{"nothing in nothing", of(0), of(0), true}, {"nothing in a node", of(1), of(0), true}, {"nothing in ten", full(10), of(0), true}, {"a node in nothing", of(0), of(1), false}, {"six nodes in nothing", of(0), of(6), false},
		{"a node in a node", of(1), of(1), true}, {"two nodes in a node", of(1), of(2), false}, {"an edge in two nodes", of(2), of(2, 0, 1), false}, {"two nodes in an edge", of(2, 1, 0), of(2), true}, {"an edge in an edge", of(2, 1, 0), of(2, 0, 1), true},
		{"six nodes in five with all edges", full(5), of(6), false}, {"six nodes in six", of(6), of(6), true}, {"six nodes in ten", of(10), of(6), true}, {"an edge in ten nodes", of(10), of(2, 0, 1), false}, {"an edge among six in ten", of(10, 8, 9), of(6, 0, 5), true},
		{"three with all edges in a ring of five", ring(5), full(3), true}, {"three with all edges in a ring of ten", ring(10), full(3), true}, {"three with all edges in a path", path(10), full(3), false}, {"three with all edges in a star", star(10), full(3), false},
		{"a ring of six in one of ten", ring(10), ring(6), true}, {"a ring of six in one of five", ring(5), ring(6), false}, {"four with all edges in a ring", ring(10), full(4), false}, {"a star in a ring", ring(10), star(4), false},
		{"a star in a tree", of(4, 0, 1, 1, 2, 1, 3), star(4), true}, {"a star of five leaves in a path with five leaves", of(10, 0, 1, 1, 2, 2, 3, 3, 4, 0, 5, 1, 6, 2, 7, 3, 8, 4, 9), star(6), true}, {"a star of five leaves in a path with a leaf", of(10, 0, 1, 1, 2, 2, 3, 3, 4, 4, 5, 5, 6, 6, 7, 7, 8, 4, 9), star(6), false},
		{"two edges in a path of three", path(3), of(4, 0, 1, 2, 3), false}, {"two edges in a path of four", path(4), of(4, 0, 1, 2, 3), true}, {"two edges in a star", star(10), of(4, 0, 1, 2, 3), false}, {"three edges in a ring of five", ring(5), of(6, 0, 1, 2, 3, 4, 5), false}, {"three edges in a ring of six", ring(6), of(6, 0, 5, 1, 4, 2, 3), true},
		{"two triangles in Petersen's", petersen(), nextTo(full(3), full(3)), true}, {"two triangles in a wheel", wheel(10), nextTo(full(3), full(3)), false}, {"two triangles in three and seven", groups(3, 7), nextTo(full(3), full(3)), false}, {"two triangles in four and six", groups(4, 6), nextTo(full(3), full(3)), true}, {"two triangles at a node", hungAt(full(3), full(3)), nextTo(full(3), full(3)), false},
		{"five in Petersen's", petersen(), full(5), true}, {"six in Petersen's", petersen(), full(6), false}, {"three and three in Petersen's", petersen(), groups(3, 3), true}, {"an octahedron in Petersen's", petersen(), groups(2, 2, 2), false},
		{"five in a ring of eight with what lies across", steps(8, 1, 4), full(5), false}, {"three and three in it", steps(8, 1, 4), groups(3, 3), true}, {"four in it", steps(8, 1, 4), full(4), true}, {"five in a ring of ten with what lies across", steps(10, 1, 5), full(5), true}, {"three and three in a ring of ten with what lies across", steps(10, 1, 5), groups(3, 3), true},
		{"four in a cube", cube(3), full(4), true}, {"five in a cube", cube(3), full(5), false}, {"three and three in a cube", cube(3), groups(3, 3), false}, {"two, two and two in a cube", cube(3), groups(2, 2, 2), false}, {"a wheel in a cube", cube(3), wheel(5), true}, {"a prism in a cube", cube(3), prism(3), true},
		{"four in a grid", grid(3, 3), full(4), true}, {"four in a ladder", grid(2, 5), full(4), false}, {"two and three in a ladder", grid(2, 5), groups(2, 3), false}, {"two and three in a grid", grid(3, 3), groups(2, 3), true}, {"five in a grid", grid(3, 3), full(5), false},
		{"three and three in five", full(5), groups(3, 3), false}, {"three and three in six", full(6), groups(3, 3), true}, {"five in three and three", groups(3, 3), full(5), false}, {"four in three and three", groups(3, 3), full(4), true}, {"five in two, two and two", groups(2, 2, 2), full(5), false},
		{"six in ten", full(10), full(6), true}, {"six in six", full(6), full(6), true}, {"six in six but an edge", withoutAt(full(6), 7), full(6), false}, {"six in seven but an edge", groups(1, 1, 1, 1, 1, 2), full(6), true}, {"six in five and five", groups(5, 5), full(6), true}, {"six in four and six", groups(4, 6), full(6), false}, {"five in four and six", groups(4, 6), full(5), true}, {"five in three and seven", groups(3, 7), full(5), false},
		{"six in pairs", groups(2, 2, 2, 2, 2), full(6), true}, {"six in two, two, two and two", groups(2, 2, 2, 2), full(6), true}, {"five in a wheel", wheel(10), full(5), false}, {"four in a wheel", wheel(10), full(4), true}, {"a wheel in a wheel", wheel(10), wheel(6), true}, {"a prism in a wheel", wheel(10), prism(3), false},
		{"six in two fives", nextTo(full(5), full(5)), full(6), false}, {"five in two fives", nextTo(full(5), full(5)), full(5), true}, {"five in a four and another six", nextTo(full(4), prism(3)), full(5), false}, {"six in two fives at a node", hungAt(full(5), full(5)), full(6), false}, {"edges and nodes in two fours", nextTo(full(4), full(4)), of(6, 5, 0, 4, 1, 3, 2), true},
	} {
		wantMinor(t, c.name, c.g, c.h, c.want)
		for seed := range 4 {
			wantMinor(t, c.name+", shuffled", shuffled(c.g, seed), shuffled(c.h, seed+9), c.want)
		}
	}
}

func TestMinorOfAllSmallGraphs(t *testing.T) {
	for n := range 5 {
		for m := range 5 {
			for _, g := range small(n) {
				for _, h := range small(m) {
					wantMinor(t, "small graphs", g, h, isMinor(g, h))
				}
			}
		}
	}
}

func TestMinorOfMixedGraphsByTheWords(t *testing.T) {
	for seed := range 300 {
		g, h := mixed(5+seed%2, 25+seed%60, seed), mixed(3+seed%3, 30+seed%50, seed+5000)
		wantMinor(t, "mixed graphs", g, h, isMinor(g, h))
	}
}

// All kinds of graphs of up to seven nodes, with all kinds of up to six in them.
func TestMinorOfAllKinds(t *testing.T) {
	k := kindsUpTo(7)
	if many := len(k.graphs); many != 1+1+2+4+11+34+156+1044 {
		t.Fatalf("%d kinds of graphs", many)
	}
	for i, g := range k.graphs {
		g = shuffled(g, i)
		for j, h := range k.graphs {
			if h.N <= 6 {
				wantMinor(t, "kinds", g, shuffled(h, i+j), k.minors[i][j])
			}
		}
	}
}

// eightToTen has graphs of eight nodes and more, up to the limit, that are known well, or mixed.
func eightToTen() []api.Graph {
	all := []api.Graph{petersen(), prism(4), prism(5), cube(3), grid(3, 3), steps(8, 1, 4), steps(10, 1, 5), steps(9, 1, 3), wheel(10), groups(3, 6), groups(3, 7), nextTo(full(4), full(4)), hungAt(full(5), full(4)), nextTo(ring(4), full(5)), star(9), ring(10), of(9, 0, 8)}
	for seed := range 30 {
		all = append(all, drawn(8, 6+seed%14, seed))
	}
	for seed := range 12 {
		all = append(all, drawn(9, 10+seed%8, seed))
	}
	for seed := range 6 {
		all = append(all, drawn(10, 11+2*seed, seed))
	}
	return append(all, grown(8, 3, 1), grown(9, 2, 2), grown(9, 3, 3), grown(10, 2, 4))
}

func TestMinorOfGreaterGraphs(t *testing.T) {
	k := kindsUpTo(6)
	in, out := 0, 0
	for i, g := range eightToTen() {
		minors := make([]bool, len(k.graphs))
		for _, six := range sixes(g) {
			for j, is := range k.minors[k.number[nameOf(six)]] {
				minors[j] = minors[j] || is
			}
		}
		g = shuffled(g, i)
		for j, h := range k.graphs {
			wantMinor(t, "a greater graph", g, shuffled(h, i+j), minors[j])
			if minors[j] {
				in++
			} else {
				out++
			}
		}
	}
	if in < 1000 || out < 1000 {
		t.Errorf("%d are minors, and %d are not: too few of the one kind are tried", in, out)
	}
}
