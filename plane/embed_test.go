package plane_test

import (
	"testing"

	"arbor/api"
	"arbor/plane"
)

// wantPlane: a plane order and no bad edges.
func wantPlane(t *testing.T, name string, g api.Graph) {
	t.Helper()
	round, bad, f := plane.Embed(g)
	if f != (api.Fault{}) || !isPlaneOrder(g, round) || len(bad) > 0 {
		t.Errorf("Embed of %s %v: %v and bad %v, %v, want a plane order alone", name, g, round, bad, f)
	}
}

// wantBad: bad edges and no order.
func wantBad(t *testing.T, name string, g api.Graph) {
	t.Helper()
	round, bad, f := plane.Embed(g)
	if f != (api.Fault{}) || !isKuratowski(g, bad) || len(round) > 0 {
		t.Errorf("Embed of %s %v: %v and bad %v, %v, want bad edges alone", name, g, round, bad, f)
	}
}

// wantEither: a plane order or bad edges, each of which shows by itself that there is not the other one; it tells whether there is an order.
func wantEither(t *testing.T, name string, g api.Graph) bool {
	t.Helper()
	if _, bad, _ := plane.Embed(g); len(bad) > 0 {
		wantBad(t, name, g)
		return false
	}
	wantPlane(t, name, g)
	return true
}

type named struct {
	name string
	g    api.Graph
}

// inThePlane has graphs of which it is known that they have a plane order.
func inThePlane() []named {
	return []named{
		{"no nodes", of(0)}, {"a node", of(1)}, {"nodes", of(100)}, {"an edge", of(2, 1, 0)}, {"an edge far off", of(100, 99, 63)}, {"a path", path(100)}, {"a star", star(100)}, {"a ring", ring(100)}, {"a triangle", ring(3)}, {"all of four", full(4)},
		{"all but one of five", without(full(5), 1, 3)}, {"all but one of three and three", without(sides(3, 3), 0, 4)}, {"two and 98", sides(2, 98)}, {"one and 99", sides(1, 99)}, {"a cube", cube(3)}, {"pairs", groups(3, 2)}, {"twenty", twenty()}, {"a grid", grid(10, 10)},
		{"a net", net(10, 10, 1)}, {"a net of other chords", net(4, 25, 2)}, {"a prism", prism(50)}, {"a wheel", wheel(99, 1)}, {"a wheel with two middles", wheel(98, 2)}, {"two next ones of an even ring", jumps(100, 1, 2)}, {"fours at fours", chain(full(4), 33)}, {"rings at a node", atNode(ring(50), ring(51), 17)},
		{"rings on edges", longer(full(4), 100)}, {"a cube with nodes on its edges", longer(cube(3), 100)}, {"a path and a ring", nextTo(path(50), ring(50))}, {"fours next to fours", nextTo(full(4), nextTo(full(4), full(4)))}, {"a tree at each node of a cube", atNode(atNode(cube(3), path(20), 0), star(20), 5)},
		{"a four at a four at each node", atNode(atNode(atNode(atNode(full(4), full(4), 0), full(4), 1), full(4), 2), full(4), 3)}, {"a book of triangles", joined(full(2), of(98))}, {"a fan", joined(path(99), of(1))}, {"two fans", joined(path(98), of(2))}, {"two fans and an edge", joined(path(98), full(2))},
	}
}

// outOfThePlane has graphs of which it is known that they have none.
func outOfThePlane() []named {
	return []named{
		{"all of five", full(5)}, {"three and three", sides(3, 3)}, {"all of six", full(6)}, {"all of 45", full(45)}, {"Petersen's", petersen()}, {"three and 97", sides(3, 97)}, {"25 and 40", sides(25, 40)}, {"twisted", twisted(3)}, {"more twisted", twisted(4)}, {"most twisted", twisted(50)},
		{"a cube of four sides", cube(4)}, {"a cube of six", cube(6)}, {"four pairs", groups(4, 2)}, {"three threes", groups(3, 3)}, {"a tyre", tyre(3, 3)}, {"a great tyre", tyre(10, 10)}, {"a long tyre", tyre(3, 33)}, {"two next ones of an odd ring", jumps(99, 1, 2)}, {"three far of a ring", jumps(100, 1, 3)},
		{"a wheel with three middles", wheel(97, 3)}, {"five with nodes on its edges", longer(full(5), 100)}, {"three and three with nodes on its edges", longer(sides(3, 3), 100)}, {"Petersen's with nodes on its edges", longer(petersen(), 100)}, {"five, and a path", nextTo(full(5), path(95))}, {"a path, and five", nextTo(path(95), full(5))},
		{"five at the end of a path", atNode(path(90), full(5), 89)}, {"five in the middle of a path", atNode(path(90), full(5), 40)}, {"fives at fives", chain(full(5), 24)}, {"fours, and a five at the end", atNode(chain(full(4), 30), full(5), 90)}, {"a grid, and three and three", nextTo(grid(9, 10), sides(3, 3))},
		{"three fans", joined(path(97), of(3))}, {"a book whose pages have an edge", with(joined(full(2), of(98)), 2, 3, 3, 4, 4, 2)}, {"all of five, and one edge from it", atNode(full(5), path(2), 4)},
	}
}

func TestEmbedByHand(t *testing.T) {
	for _, c := range inThePlane() {
		for seed := range 4 {
			wantPlane(t, c.name, shuffled(c.g, seed))
		}
		wantPlane(t, c.name, c.g)
		wantPlane(t, c.name, scrambled(c.g))
	}
	for _, c := range outOfThePlane() {
		for seed := range 4 {
			wantBad(t, c.name, shuffled(c.g, seed))
		}
		wantBad(t, c.name, c.g)
		wantBad(t, c.name, scrambled(c.g))
	}
}

// What can only be one set of edges must be just that.
func TestEmbedWithoutAChoice(t *testing.T) {
	for _, g := range []api.Graph{full(5), sides(3, 3), longer(full(5), 12), longer(sides(3, 3), 13), longer(full(5), 100), longer(sides(3, 3), 100)} {
		_, bad, _ := plane.Embed(shuffled(g, 3))
		if len(bad) != len(g.Edges) {
			t.Errorf("Embed of %v: bad %v, want all edges", g, bad)
		}
	}
	for _, g := range []api.Graph{atNode(full(5), full(4), 2), nextTo(full(4), full(5)), atNode(path(80), full(5), 3), atNode(wheel(20, 2), full(5), 3)} {
		if _, bad, _ := plane.Embed(g); len(bad) != 10 {
			t.Errorf("Embed of %v: bad %v, want all edges of the five", g, bad)
		}
	}
}

// It is known how many graphs of n nodes are in the plane: all but full(5) of those with up to five.
func TestEmbedOfAllSmallGraphs(t *testing.T) {
	for n, want := range []int{1, 1, 2, 8, 64, 1023, 32071} {
		many := 0
		for _, g := range small(n) {
			if wantEither(t, "a graph", g) {
				many++
			}
		}
		if many != want {
			t.Errorf("%d of the graphs of %d nodes have a plane order, want %d", many, n, want)
		}
	}
	for _, g := range small(5) {
		wantEither(t, "a graph", scrambled(g))
	}
}

func TestEmbedOfSomeGraphsOfSevenAndEightNodes(t *testing.T) {
	draw := drawFrom(7)
	for range 20000 {
		wantEither(t, "a graph of seven", chosen(7, draw(1<<21)))
	}
	for range 10000 {
		wantEither(t, "a graph of eight", chosen(8, draw(1<<28)&draw(1<<28)))
	}
}

func TestEmbedOfMixedGraphs(t *testing.T) {
	planes := 0
	for seed := range 2000 {
		n := 7 + seed%30
		if wantEither(t, "a mixed graph", mixed(n, n+seed%(2*n), seed)) {
			planes++
		}
	}
	if planes < 200 || planes > 1800 {
		t.Errorf("%d of 2000 mixed graphs are in the plane: too few of the one kind are tried", planes)
	}
}

// With as many edges as can be in the plane, any one more is too many.
func TestEmbedOfPackedGraphs(t *testing.T) {
	for seed := range 60 {
		n := 5 + seed*95/59
		g := packed(n, seed*10, seed)
		if len(g.Edges) != 3*n-6 {
			t.Fatalf("packed has %d edges", len(g.Edges))
		}
		wantPlane(t, "a packed graph", g)
		wantPlane(t, "a thinned graph", thinned(g, seed, seed))
		one, two := packed(3+n/3, seed, seed), packed(3+n/2, seed, seed+1)
		wantPlane(t, "two of them", shuffled(nextTo(one, two), seed))
		wantPlane(t, "two at a node", shuffled(atNode(one, two, seed%one.N), seed))
		wantBad(t, "a packed graph and an edge", oneMore(g, seed))
	}
}

func TestEmbedOfGreatGraphs(t *testing.T) {
	for _, g := range great() {
		wantEither(t, "a great graph", g)
	}
}
