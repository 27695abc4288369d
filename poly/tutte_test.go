package poly_test

import (
	"slices"
	"strconv"
	"testing"

	"arbor/api"
	"arbor/colour"
	"arbor/poly"
	"arbor/trees"
)

func sameTable(a, b [][]int) bool {
	return slices.EqualFunc(a, b, func(row, other []int) bool { return slices.Equal(row, other) })
}

func wantTutte(t *testing.T, name string, g api.Graph, want [][]int) {
	t.Helper()
	table, f := poly.Tutte(g)
	if f != (api.Fault{}) || !sameTable(table, want) {
		t.Errorf("Tutte of %s %v: %v %v, want %v", name, g, table, f, want)
	}
}

// tutte is the table of a graph without fault.
func tutte(t *testing.T, g api.Graph) [][]int {
	t.Helper()
	table, f := poly.Tutte(g)
	if f != (api.Fault{}) || len(table) == 0 || len(table[0]) == 0 {
		t.Fatalf("Tutte of %v: %v %v", g, table, f)
	}
	return table
}

// xToThe is the table of a power of x.
func xToThe(power int) [][]int {
	return append(slices.Repeat([][]int{{0}}, power), []int{1})
}

// ringTable is y + x + x^2 + .. x^(n - 1).
func ringTable(n int) [][]int {
	return append([][]int{{0, 1}}, slices.Repeat([][]int{{1, 0}}, n-1)...)
}

func TestTutteByHand(t *testing.T) {
	for _, c := range []struct {
		name string
		g    api.Graph
		want [][]int
	}{
		{"no nodes", of(0), xToThe(0)}, {"a node", of(1), xToThe(0)}, {"two nodes", of(2), xToThe(0)}, {"a hundred nodes", of(100), xToThe(0)},
		{"an edge", of(2, 1, 0), xToThe(1)}, {"an edge among many nodes", of(100, 99, 37), xToThe(1)}, {"two edges", of(4, 0, 1, 3, 2), xToThe(2)},
		{"a path", path(3), xToThe(2)}, {"a path of twelve edges", path(13), xToThe(12)}, {"a star of twelve edges", star(13), xToThe(12)},
		{"a triangle", full(3), [][]int{{0, 1}, {1, 0}, {1, 0}}}, {"a triangle the other way round", of(3, 2, 1, 1, 0, 2, 0), [][]int{{0, 1}, {1, 0}, {1, 0}}},
		{"a triangle and nodes", of(5, 4, 3, 3, 1, 4, 1), [][]int{{0, 1}, {1, 0}, {1, 0}}}, {"a ring of four", ring(4), ringTable(4)}, {"a ring of twelve", ring(12), ringTable(12)},
		{"a triangle with a leaf", hungAt(full(3), path(2)), [][]int{{0, 0}, {0, 1}, {1, 0}, {1, 0}}},
		{"two triangles", nextTo(full(3), full(3)), [][]int{{0, 0, 1}, {0, 2, 0}, {1, 2, 0}, {2, 0, 0}, {1, 0, 0}}},
		{"two triangles at a node", hungAt(full(3), full(3)), [][]int{{0, 0, 1}, {0, 2, 0}, {1, 2, 0}, {2, 0, 0}, {1, 0, 0}}},
		{"all four but an edge", without(full(4), 0, 2), [][]int{{0, 1, 1}, {1, 2, 0}, {2, 0, 0}, {1, 0, 0}}},
		{"all four", full(4), [][]int{{0, 2, 3, 1}, {2, 4, 0, 0}, {3, 0, 0, 0}, {1, 0, 0, 0}}},
		{"all five", full(5), [][]int{{0, 6, 15, 15, 10, 4, 1}, {6, 20, 15, 5, 0, 0, 0}, {11, 10, 0, 0, 0, 0, 0}, {6, 0, 0, 0, 0, 0, 0}, {1, 0, 0, 0, 0, 0, 0}}},
		{"two and three", groups(2, 3), [][]int{{0, 1, 1}, {1, 3, 0}, {3, 0, 0}, {2, 0, 0}, {1, 0, 0}}},
		{"three and three", groups(3, 3), [][]int{{0, 5, 9, 5, 1}, {5, 15, 6, 0, 0}, {11, 9, 0, 0, 0}, {10, 0, 0, 0, 0}, {4, 0, 0, 0, 0}, {1, 0, 0, 0, 0}}},
	} {
		wantTutte(t, c.name, c.g, c.want)
		wantTutte(t, c.name+", shuffled", shuffled(c.g, 3), c.want)
		wantTutte(t, c.name+", by edges", c.g, tableOf(byEdges(c.g.N, c.g.Edges)))
	}
}

// fewEdges has graphs of which Tutte is to tell, of many kinds, up to the limits.
func fewEdges() []api.Graph {
	all := []api.Graph{groups(2, 2, 2), groups(3, 4), groups(2, 6), groups(1, 12), cube(3), wheel(5), wheel(6), wheel(7), prism(3), prism(4), grid(3, 3), grid(2, 4), steps(6, 1, 3), steps(6, 1, 2), steps(8, 1, 4), without(full(5), 1, 2), hungAt(full(4), full(4)), nextTo(full(4), full(4)), hungAt(full(5), path(3)), nextTo(full(5), path(3)), nextTo(nextTo(ring(4), ring(4)), ring(4)), hungAt(ring(5), ring(7)), nextTo(path(50), of(0)), of(100, 0, 99, 99, 50, 50, 0)}
	for seed := range 150 {
		all = append(all, drawn(6+seed%4, 8+seed%5, seed), drawn(10+seed%91, seed%13, seed))
	}
	return slices.DeleteFunc(all, func(g api.Graph) bool { return len(g.Edges) > api.MaxSmall })
}

func TestTutteOfAllSmallGraphs(t *testing.T) {
	for n := range 6 {
		for _, g := range small(n) {
			want := tableOf(byEdges(n, g.Edges))
			wantTutte(t, "a graph", g, want)
			wantTutte(t, "a graph, scrambled", scrambled(g), want)
		}
	}
	for at, g := range small(6) {
		if at%5 == 0 && len(g.Edges) <= api.MaxSmall {
			wantTutte(t, "a graph", g, tableOf(byEdges(6, g.Edges)))
		}
	}
}

func TestTutteOfGreaterGraphs(t *testing.T) {
	for _, g := range fewEdges() {
		want := tableOf(byEdges(g.N, g.Edges))
		wantTutte(t, "a graph", g, want)
		wantTutte(t, "a graph, shuffled", shuffled(g, g.N), want)
	}
}

func TestTutteIsTheSum(t *testing.T) {
	points := [][2]int{{0, 0}, {1, 1}, {2, 2}, {0, 1}, {1, 0}, {2, 0}, {0, 2}, {-1, -1}, {3, -2}, {-2, 3}, {5, 4}}
	all := fewEdges()[:90]
	for n := range 6 {
		all = append(all, small(n)...)
	}
	for _, g := range all {
		table := tutte(t, g)
		for i, sum := range sumAt(g, points) {
			if got := valueAt(table, points[i][0], points[i][1]); got != sum {
				t.Errorf("Tutte of %v: %v, at %v %d, want %d", g, table, points[i], got, sum)
			}
		}
	}
}

// As few rows and columns as can be, all rows of one length: the last row and the last column have something.
func TestTutteHasNoMoreRowsAndColumnsThanItNeeds(t *testing.T) {
	for _, g := range append(fewEdges(), small(5)...) {
		table := tutte(t, g)
		last := len(table[0]) - 1
		if slices.ContainsFunc(table, func(row []int) bool { return len(row) != last+1 }) {
			t.Errorf("Tutte of %v: %v: rows differ in length", g, table)
			continue
		}
		row := slices.ContainsFunc(table[len(table)-1], func(c int) bool { return c != 0 })
		column := slices.ContainsFunc(table, func(row []int) bool { return row[last] != 0 })
		if !row || !column {
			t.Errorf("Tutte of %v: %v: more rows or columns than needed", g, table)
		}
	}
}

// forests counts the sets of edges without a ring by which just those hang together that do in g.
func forests(g api.Graph) int {
	many := 0
	whole := pieces(g.N, g.Edges)
	for set := range 1 << len(g.Edges) {
		edges := chosen(g.Edges, set)
		if len(edges) == g.N-whole && pieces(g.N, edges) == whole {
			many++
		}
	}
	return many
}

// ringless counts the ways in which all edges can be given a direction so that no ring of arcs comes of it.
func ringless(g api.Graph) int {
	many := 0
	for set := range 1 << len(g.Edges) {
		arcs := slices.Clone(g.Edges)
		for i, e := range arcs {
			if set>>i&1 == 1 {
				arcs[i] = [2]int{e[1], e[0]}
			}
		}
		if isRingless(arcs) {
			many++
		}
	}
	return many
}

// isRingless takes arcs away to whose first node no arc leads: all go just if there is no ring.
func isRingless(arcs [][2]int) bool {
	for len(arcs) > 0 {
		left := slices.DeleteFunc(slices.Clone(arcs), func(a [2]int) bool {
			return !slices.ContainsFunc(arcs, func(b [2]int) bool { return b[1] == a[0] })
		})
		if len(left) == len(arcs) {
			return false
		}
		arcs = left
	}
	return true
}

func TestWhatFollowsOfTutte(t *testing.T) {
	all := fewEdges()[:80]
	for n := range 6 {
		all = append(all, small(n)...)
	}
	for _, g := range all {
		table := tutte(t, g)
		if got, want := valueAt(table, 1, 1), forests(g); got != want {
			t.Errorf("Tutte of %v is %d at 1, 1, want %d forests", g, got, want)
		}
		if got, want := valueAt(table, 2, 2), 1<<len(g.Edges); got != want {
			t.Errorf("Tutte of %v is %d at 2, 2, want %d sets", g, got, want)
		}
		if got, want := valueAt(table, 2, 0), ringless(g); got != want {
			t.Errorf("Tutte of %v is %d at 2, 0, want %d ways", g, got, want)
		}
	}
}

func TestTutteAndTrees(t *testing.T) {
	for _, g := range append(fewEdges(), small(5)...) {
		if pieces(g.N, g.Edges) != 1 {
			continue
		}
		count, _ := trees.Count(g)
		if got := strconv.Itoa(valueAt(tutte(t, g), 1, 1)); got != count {
			t.Errorf("Tutte of %v is %s at 1, 1, want %s trees", g, got, count)
		}
	}
}

func TestTutteAndColours(t *testing.T) {
	all := fewEdges()
	for n := range 6 {
		all = append(all, small(n)...)
	}
	for _, g := range all {
		if g.N > api.MaxSmall {
			continue
		}
		p, _ := colour.Poly(g)
		table := tutte(t, g)
		whole := pieces(g.N, g.Edges)
		// as many numbers as either side has coefficients, so that they are the same for all
		for x := range g.N + 1 {
			colourings := 0
			for i, c := range p {
				colourings += c * toThe(x, i)
			}
			if got := toThe(-1, g.N-whole) * toThe(x, whole) * valueAt(table, 1-x, 0); got != colourings {
				t.Errorf("Tutte of %v: %v makes %d at %d, want %d colourings", g, table, got, x, colourings)
			}
		}
	}
}

// Parts that lie beside each other, or hang at one node, have the product.
func TestTutteOfTwoParts(t *testing.T) {
	few := []api.Graph{of(1), path(2), full(3), ring(4), full(4), star(5), without(full(4), 0, 1), groups(2, 3), ring(6)}
	for _, a := range few {
		for _, b := range few {
			want := times(tutte(t, a), tutte(t, b))
			wantTutte(t, "two", nextTo(a, b), want)
			wantTutte(t, "two at a node", hungAt(a, b), want)
			wantTutte(t, "two, shuffled", shuffled(nextTo(a, b), 5), want)
		}
	}
}

// What is drawn in a plane, and what has a node for each face of it, have each other's rows as columns; wheels are their own, and so is what hangs of wheels.
func TestTutteOfWheelsTurnedOver(t *testing.T) {
	for _, g := range []api.Graph{full(4), wheel(5), wheel(6), wheel(7), hungAt(full(4), full(4)), nextTo(wheel(4), wheel(4))} {
		table := tutte(t, g)
		wantTutte(t, "a wheel", g, turnedOver(table))
	}
	// six nodes with all but three edges, and the cube
	wantTutte(t, "an octahedron", groups(2, 2, 2), turnedOver(tutte(t, cube(3))))
	wantTutte(t, "a prism", prism(3), turnedOver(tutte(t, groups(1, 1, 1, 2))))
}
