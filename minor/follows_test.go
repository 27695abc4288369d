package minor_test

import (
	"testing"

	"arbor/api"
	"arbor/colour"
	"arbor/parts"
	"arbor/plane"
	"arbor/width"
)

// many has mixed graphs of up to as many nodes as may be, and some that are known well.
func many() []api.Graph {
	all := []api.Graph{of(0), of(1), of(10), path(10), ring(10), star(10), wheel(10), petersen(), prism(5), cube(3), grid(3, 3), grid(2, 5), steps(10, 1, 5), steps(10, 1, 2), steps(8, 1, 4), groups(2, 8), groups(3, 7), groups(3, 3), full(5), groups(2, 2, 2), nextTo(full(5), groups(2, 3)), nextTo(full(4), groups(3, 3)), hungAt(groups(2, 3), full(5))}
	for seed := range 120 {
		all = append(all, drawn(6+seed%5, 4+seed%21, seed), grown(7+seed%4, 1+seed%3, seed))
	}
	return all
}

// wantFollows asks of every fortieth graph of six nodes and of many others whether what holds on the one side holds on the other.
func wantFollows(t *testing.T, name string, one, other func(g api.Graph) bool) {
	t.Helper()
	so, not := 0, 0
	all := many()
	for i, g := range small(6) {
		if i%40 == 0 {
			all = append(all, g)
		}
	}
	for _, g := range all {
		is := one(g)
		if is != other(g) {
			t.Errorf("%s, of %v: on the one side %v, on the other one not", name, g, is)
		}
		if is {
			so++
		} else {
			not++
		}
	}
	if so < 50 || not < 50 {
		t.Errorf("%s: %d times so, %d times not: too few of the one kind are tried", name, so, not)
	}
}

func isPlane(g api.Graph) bool {
	_, bad, _ := plane.Embed(g)
	return len(bad) == 0
}

func TestPlaneJustIfNeitherIsAMinor(t *testing.T) {
	wantFollows(t, "plane", isPlane, func(g api.Graph) bool {
		return !isIn(t, g, full(5)) && !isIn(t, shuffled(g, 5), shuffled(groups(3, 3), 3))
	})
}

// The edges that show that there is no plane order show which of both is a minor.
func TestWhatIsBadTellsWhichIsAMinor(t *testing.T) {
	fives, sixes := 0, 0
	for _, g := range many() {
		_, bad, _ := plane.Embed(g)
		at := make([]int, g.N)
		for _, e := range bad {
			at[e[0]]++
			at[e[1]]++
		}
		three, four := 0, 0
		for _, edges := range at {
			switch edges {
			case 3:
				three++
			case 4:
				four++
			}
		}
		if four == 5 {
			wantMinor(t, "bad edges", g, full(5), true)
			fives++
		}
		if three == 6 {
			wantMinor(t, "bad edges", g, groups(3, 3), true)
			sixes++
		}
	}
	if fives < 5 || sixes < 5 {
		t.Errorf("of five nodes %d, of six %d: too few are tried", fives, sixes)
	}
}

// With a node more that has an edge with all others there is a plane order just if all nodes of g can stand at one face.
func TestAllNodesAtOneFace(t *testing.T) {
	wantFollows(t, "all nodes at one face", func(g api.Graph) bool { return isPlane(topped(g)) }, func(g api.Graph) bool {
		return !isIn(t, g, full(4)) && !isIn(t, shuffled(g, 4), shuffled(groups(2, 3), 2))
	})
}

func TestRings(t *testing.T) {
	wantFollows(t, "no ring", func(g api.Graph) bool {
		pieces, _ := parts.Components(g)
		return len(g.Edges) == g.N-len(pieces)
	}, func(g api.Graph) bool { return !isIn(t, g, full(3)) })
	for _, g := range many() {
		most := longestRing(g)
		for n := 3; n <= 6; n++ {
			wantMinor(t, "a ring", g, shuffled(ring(n), n), n <= most)
		}
	}
}

// longestRing answers how many nodes a ring of g has at most, 0, if there is none: of each set of nodes, from its least one on, it keeps to which ones a way through all of it leads.
func longestRing(g api.Graph) int {
	most := 0
	ends := make([][]bool, 1<<g.N)
	for set := range ends {
		ends[set] = make([]bool, g.N)
	}
	for first := range g.N {
		ends[1<<first][first] = true
	}
	for set, at := range ends {
		first, size := 0, 0
		for v := g.N - 1; v >= 0; v-- {
			if set>>v&1 == 1 {
				first = v
				size++
			}
		}
		for u, is := range at {
			for v := first; is && v < g.N; v++ {
				switch {
				case !has(g, u, v):
				case v == first && size > 2:
					most = max(most, size)
				case set>>v&1 == 0:
					ends[set|1<<v][v] = true
				}
			}
		}
	}
	return most
}

// A star of three leaves is a minor just if some node has three edges.
func TestStarOfThreeLeaves(t *testing.T) {
	wantFollows(t, "a star", func(g api.Graph) bool {
		at := make([]int, g.N)
		for _, e := range g.Edges {
			at[e[0]]++
			at[e[1]]++
		}
		for _, edges := range at {
			if edges >= 3 {
				return true
			}
		}
		return false
	}, func(g api.Graph) bool { return isIn(t, g, shuffled(star(4), g.N)) })
}

func wide(g api.Graph) int {
	least, _, _, _ := width.Least(g)
	return least
}

func TestWidth(t *testing.T) {
	wantFollows(t, "width 2", func(g api.Graph) bool { return wide(g) <= 2 }, func(g api.Graph) bool { return !isIn(t, g, full(4)) })
	for _, g := range many() {
		least := wide(g)
		for n := least + 2; n >= 1 && n <= 6; n++ {
			wantMinor(t, "more than the width", g, full(n), false)
		}
		if least <= 3 {
			wantMinor(t, "an octahedron", g, groups(2, 2, 2), false)
		}
	}
}

// Graphs of so many edges that one more leads to a minor with all edges between k nodes (Mader has shown it up to seven).
func TestManyEdges(t *testing.T) {
	for k := 3; k <= 6; k++ {
		for n := k; n <= 10; n++ {
			edges := (k-2)*n - (k-1)*(k-2)/2
			for seed := range 4 {
				g := grown(n, k-2, seed)
				if len(g.Edges) != edges {
					t.Fatalf("%v has not %d edges", g, edges)
				}
				wantMinor(t, "as many edges as may be", g, full(k), false)
				wantMinor(t, "one less", g, full(k-1), true)
				if k < n {
					wantMinor(t, "one edge too many", drawn(n, edges+1, seed), full(k), true)
				}
			}
		}
	}
}

// As many nodes with all edges between them are a minor as there must be colours (which is known up to six).
func TestColours(t *testing.T) {
	for seed := range 300 {
		g := mixed(7+seed%4, 20+seed%50, seed)
		k, _, _ := colour.Number(g)
		wantMinor(t, "colours", g, full(min(k, 6)), true)
	}
}
