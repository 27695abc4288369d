package draw_test

import (
	"testing"

	"arbor/api"
	"arbor/draw"
	"arbor/plane"
)

// most is the number of nodes up to which graphs are drawn.
const most = 2 * api.MaxSmall

// wantDrawing: a clear drawing on the grid.
func wantDrawing(t *testing.T, name string, g api.Graph) {
	t.Helper()
	at, f := draw.Draw(g)
	if f != (api.Fault{}) || !isOnGrid(g.N, at) || !isClear(g, at) {
		t.Errorf("Draw of %s %v: %v %v, want a clear drawing on the grid", name, g, at, f)
	}
	if is, f := draw.Clear(g, at); !is || f != (api.Fault{}) {
		t.Errorf("Clear of %s %v at %v: %v %v", name, g, at, is, f)
	}
}

func wantNone(t *testing.T, name string, g api.Graph) {
	t.Helper()
	at, f := draw.Draw(g)
	wantFault(t, "Draw of "+name, answer{at: at}, f, fault(api.ErrNone, 0))
}

// wantByPlane: there is a clear drawing just if there is a plane order; it tells whether there is.
func wantByPlane(t *testing.T, name string, g api.Graph) bool {
	t.Helper()
	if _, bad, _ := plane.Embed(g); len(bad) > 0 {
		wantNone(t, name, g)
		return false
	}
	wantDrawing(t, name, g)
	return true
}

type named struct {
	name string
	g    api.Graph
}

// inThePlane has graphs of which it is known that they have a clear drawing.
func inThePlane() []named {
	return []named{
		{"three nodes", of(3)}, {"a node and an edge", of(3, 2, 0)}, {"a path of three", path(3)}, {"a triangle", ring(3)}, {"four nodes", of(4)}, {"two edges", of(4, 0, 3, 1, 2)}, {"a star of four", star(4)}, {"a ring of four", ring(4)}, {"all but one of four", without(full(4), 0, 2)}, {"all of four", full(4)}, {"a triangle and a node", nextTo(ring(3), of(1))},
		{"many nodes", of(most)}, {"an edge of many nodes", of(most, 23, 11)}, {"pairs of nodes", nextTo(nextTo(nextTo(path(2), path(2)), nextTo(path(2), path(2))), nextTo(path(2), path(2)))}, {"a path", path(most)}, {"a star", star(most)}, {"a ring", ring(most)}, {"a tree", atNode(atNode(star(9), star(8), 3), path(9), 7)}, {"all but one of five", without(full(5), 1, 3)}, {"all but one of three and three", without(sides(3, 3), 0, 4)},
		{"two and 22", sides(2, 22)}, {"a cube", cube(3)}, {"three pairs", groups(3, 2)}, {"twenty", twenty()}, {"a grid", grid(4, 6)}, {"a long grid", grid(2, 12)}, {"a net", net(4, 6, 1)}, {"a net of other chords", net(3, 8, 2)}, {"a prism", prism(12)}, {"a wheel", wheel(23, 1)}, {"a wheel with two middles", wheel(22, 2)}, {"two next ones of a ring", jumps(24, 1, 2)},
		{"fours at fours", chain(full(4), 7)}, {"triangles at triangles", chain(ring(3), 11)}, {"rings at a node", atNode(ring(12), ring(13), 7)}, {"triangles at a node", atNode(atNode(atNode(ring(3), ring(3), 0), ring(3), 0), ring(3), 0)}, {"fours at a node", atNode(atNode(full(4), full(4), 0), full(4), 0)}, {"a four with nodes on its edges", longer(full(4), most)}, {"a cube with nodes on its edges", longer(cube(3), most)},
		{"a path and a ring", nextTo(path(12), ring(12))}, {"fours", nextTo(nextTo(full(4), nextTo(full(4), full(4))), nextTo(full(4), nextTo(full(4), full(4))))}, {"fours and nodes between", nextTo(nextTo(of(2), full(4)), nextTo(of(3), nextTo(full(4), of(1))))}, {"a four at each node of a four", atNode(atNode(atNode(atNode(full(4), full(4), 0), full(4), 1), full(4), 2), full(4), 3)},
		{"a book of triangles", joined(full(2), of(22))}, {"a fan", joined(path(23), of(1))}, {"two fans", joined(path(22), of(2))}, {"two fans and an edge", joined(path(22), full(2))}, {"trees at a cube", atNode(atNode(cube(3), path(9), 0), star(9), 5)},
	}
}

// outOfThePlane has graphs of which it is known that they have none.
func outOfThePlane() []named {
	return []named{
		{"all of five", full(5)}, {"three and three", sides(3, 3)}, {"all of six", full(6)}, {"all of 24", full(most)}, {"Petersen's", petersen()}, {"three and 21", sides(3, 21)}, {"12 and 12", sides(12, 12)}, {"twisted", twisted(3)}, {"more twisted", twisted(4)}, {"most twisted", twisted(12)}, {"a cube of four sides", cube(4)}, {"four pairs", groups(4, 2)},
		{"three threes", groups(3, 3)}, {"a tyre", tyre(3, 3)}, {"a great tyre", tyre(4, 6)}, {"two next ones of an odd ring", jumps(23, 1, 2)}, {"three far of a ring", jumps(24, 1, 3)}, {"a wheel with three middles", wheel(21, 3)}, {"five with nodes on its edges", longer(full(5), most)}, {"three and three with nodes on its edges", longer(sides(3, 3), most)},
		{"five, and a path", nextTo(full(5), path(19))}, {"a path, and five", nextTo(path(19), full(5))}, {"five in the middle of a path", atNode(path(20), full(5), 9)}, {"fives at fives", chain(full(5), 5)}, {"fours, and a five at the end", atNode(chain(full(4), 6), full(5), 18)}, {"a grid, and three and three", nextTo(grid(3, 6), sides(3, 3))}, {"three fans", joined(path(21), of(3))},
		{"a packed one and an edge", oneMore(packed(most, 30, 1), 1)},
	}
}

func TestDrawByHand(t *testing.T) {
	for _, c := range inThePlane() {
		for seed := range 10 {
			wantDrawing(t, c.name, shuffled(c.g, seed))
		}
		wantDrawing(t, c.name, c.g)
		wantDrawing(t, c.name, scrambled(c.g))
	}
	for _, c := range outOfThePlane() {
		for seed := range 2 {
			wantNone(t, c.name, shuffled(c.g, seed))
		}
		wantNone(t, c.name, c.g)
		wantNone(t, c.name, scrambled(c.g))
	}
}

// With less than three nodes the grid is one line.
func TestDrawOfFewNodes(t *testing.T) {
	for _, g := range []api.Graph{of(0), of(1), of(2), of(2, 0, 1), of(2, 1, 0)} {
		wantDrawing(t, "few nodes", g)
	}
	if at, f := draw.Draw(of(1)); len(at) != 1 || at[0].Y != 0 || f != (api.Fault{}) {
		t.Errorf("Draw of a node: %v %v", at, f)
	}
}

// It is known how many graphs of n nodes are in the plane: all but full(5) of those with up to five.
func TestDrawOfAllSmallGraphs(t *testing.T) {
	for n, want := range []int{1, 1, 2, 8, 64, 1023, 32071} {
		many := 0
		for _, g := range small(n) {
			if wantByPlane(t, "a graph", g) {
				many++
			}
		}
		if many != want {
			t.Errorf("%d of the graphs of %d nodes are drawn, want %d", many, n, want)
		}
	}
}

func TestDrawOfSomeGraphsOfSevenAndEightNodes(t *testing.T) {
	next := drawFrom(7)
	for range 10000 {
		wantByPlane(t, "a graph of seven", chosen(7, next(1<<21)))
	}
	for range 10000 {
		wantByPlane(t, "a graph of eight", chosen(8, next(1<<28)&next(1<<28)))
	}
}

func TestDrawOfMixedGraphs(t *testing.T) {
	drawn := 0
	for seed := range 2000 {
		n := 5 + seed%20
		if wantByPlane(t, "a mixed graph", mixed(n, n+seed%n, seed)) {
			drawn++
		}
	}
	if drawn < 200 || drawn > 1800 {
		t.Errorf("%d of 2000 mixed graphs are drawn: too few of the one kind are tried", drawn)
	}
}

// With as many edges as can be in the plane, there is the least room.
func TestDrawOfPackedGraphs(t *testing.T) {
	for seed := range 600 {
		n := 3 + seed%22
		g := packed(n, seed, seed)
		if len(g.Edges) != 3*n-6 {
			t.Fatalf("packed has %d edges", len(g.Edges))
		}
		wantDrawing(t, "a packed graph", g)
		wantDrawing(t, "a thinned graph", thinned(g, seed%100, seed))
		one, two := packed(3+n/3, seed, seed), packed(3+n/3, seed, seed+1)
		wantDrawing(t, "two of them", shuffled(nextTo(one, two), seed))
		wantDrawing(t, "two at a node", shuffled(atNode(one, two, seed%one.N), seed))
		if n > 4 {
			wantNone(t, "a packed graph and an edge", oneMore(g, seed))
		}
	}
}

// Above the limit nothing is drawn, also where there is a drawing, and where there is none.
func TestDrawOfTooManyNodes(t *testing.T) {
	for _, g := range []api.Graph{of(25), ring(25), path(26), star(40), of(api.MaxNodes), grid(10, 10), full(25), full(45), sides(3, 30), some(api.MaxNodes, api.MaxEdges), nextTo(full(5), of(20))} {
		at, f := draw.Draw(g)
		wantFault(t, "Draw of too many nodes", answer{at: at}, f, fault(api.ErrMany, 0))
	}
}
