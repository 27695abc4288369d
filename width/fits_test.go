package width_test

import (
	"math"
	"slices"
	"testing"

	"arbor/api"
	"arbor/width"
)

func wantFits(t *testing.T, name string, g api.Graph, over tree, want bool) {
	t.Helper()
	if is, f := width.Fits(g, over.bags, over.up); is != want || f != (api.Fault{}) {
		t.Errorf("Fits of %s: %v over %v %v: %v %v, want %v", name, g, over.bags, over.up, is, f, want)
	}
}

func TestFitsByHand(t *testing.T) {
	type lists = [][]int
	for _, c := range []struct {
		name string
		g    api.Graph
		bags [][]int
		up   []int
		want bool
	}{
		{"no nodes, no bags", of(0), nil, nil, true},
		{"no nodes, an empty bag", of(0), lists{nil}, []int{-1}, true},
		{"no nodes, empty bags", of(0), lists{{}, nil, {}}, []int{1, -1, 1}, true},
		{"no nodes, two roots", of(0), lists{nil, nil}, []int{-1, -1}, false},
		{"no nodes, no root", of(0), lists{nil}, []int{0}, false},
		{"a node, no bags", of(1), nil, nil, false},
		{"nodes, no bags", of(100), nil, nil, false},
		{"a node, an empty bag", of(1), lists{nil}, []int{-1}, false},
		{"a node", of(1), lists{{0}}, []int{-1}, true},
		{"a node, above itself", of(1), lists{{0}}, []int{0}, false},
		{"a node, above no bag", of(1), lists{{0}}, []int{1}, false},
		{"a node, below -1", of(1), lists{{0}}, []int{-2}, false},
		{"a node, far off", of(1), lists{{0}}, []int{math.MaxInt}, false},
		{"a node, far below", of(1), lists{{0}}, []int{math.MinInt}, false},
		{"a node in two bags", of(1), lists{{0}, {0}}, []int{-1, 0}, true},
		{"a node in two roots", of(1), lists{{0}, {0}}, []int{-1, -1}, false},
		{"a node in a ring of bags", of(1), lists{{0}, {0}}, []int{1, 0}, false},
		{"a ring of bags beside the root", of(1), lists{{0}, {}, {}}, []int{-1, 2, 1}, false},
		{"a bag above itself beside the root", of(1), lists{{0}, {}}, []int{-1, 1}, false},
		{"a bag that hangs at none beside the root", of(1), lists{{0}, {}}, []int{-1, 2}, false},
		{"a bag with -2 beside the root", of(1), lists{{0}, {}}, []int{-1, -2}, false},
		{"an empty bag between", of(1), lists{{0}, {}, {0}}, []int{-1, 0, 1}, false},
		{"an empty bag above", of(1), lists{{}, {0}, {0}}, []int{-1, 0, 1}, true},
		{"an empty bag above two", of(1), lists{{}, {0}, {0}}, []int{-1, 0, 0}, false},
		{"two nodes, one is left out", of(2), lists{{1}}, []int{-1}, false},
		{"two nodes apart", of(2), lists{{1}, {0}}, []int{-1, 0}, true},
		{"an edge", of(2, 0, 1), lists{{1, 0}}, []int{-1}, true},
		{"an edge in no bag", of(2, 0, 1), lists{{1}, {0}}, []int{-1, 0}, false},
		{"an edge, and a node once more", of(2, 1, 0), lists{{1}, {0, 1}}, []int{1, -1}, true},
		{"a path", path(4), lists{{0, 1}, {1, 2}, {2, 3}}, []int{-1, 0, 1}, true},
		{"a path from the middle", path(4), lists{{0, 1}, {2, 1}, {2, 3}}, []int{1, -1, 1}, true},
		{"a path, ends in the middle", path(4), lists{{1, 2}, {0, 1}, {2, 3}}, []int{1, -1, 1}, false},
		{"a triangle in one bag", ring(3), lists{{2, 0, 1}}, []int{-1}, true},
		{"a triangle by its edges", ring(3), lists{{0, 1}, {1, 2}, {0, 2}}, []int{-1, 0, 1}, false},
		{"a ring of four", ring(4), lists{{0, 1, 2}, {0, 2, 3}}, []int{1, -1}, true},
		{"a ring of four, cut otherwise", ring(4), lists{{0, 1, 3}, {2, 3, 1}}, []int{-1, 0}, true},
		{"a ring of four without an edge", ring(4), lists{{0, 1, 2}, {0, 3}}, []int{1, -1}, false},
		{"all of four in threes", full(4), lists{{0, 1, 2}, {0, 2, 3}, {0, 1, 3}, {1, 2, 3}}, []int{-1, 0, 0, 0}, false},
		{"a star round its middle", star(4), lists{{0}, {0, 1}, {0, 2}, {0, 3}}, []int{-1, 0, 0, 0}, true},
		{"a star, leaves at leaves", star(4), lists{{0, 3}, {0, 1}, {0, 2}}, []int{1, 2, -1}, true},
		{"a star whose middle is gone between", star(4), lists{{0, 1}, {1, 2}, {0, 2}, {0, 3}}, []int{-1, 0, 1, 2}, false},
	} {
		wantFits(t, c.name, c.g, tree{c.bags, c.up}, c.want)
		wantFits(t, c.name+", scrambled", scrambled(c.g), tree{c.bags, c.up}, c.want)
		if liesOver(c.g, c.bags, c.up) != c.want {
			t.Errorf("the second account of %s is not %v", c.name, c.want)
		}
	}
}

// eachList goes through all lists of so many numbers from one on up to another one.
func eachList(length, from, to int, see func(l []int)) {
	l := slices.Repeat([]int{from}, length)
	for {
		see(l)
		at := 0
		for at < length && l[at] == to {
			l[at] = from
			at++
		}
		if at == length {
			return
		}
		l[at]++
	}
}

// eachTree goes through all lists of so many bags of nodes below n, with all that could stand above them.
func eachTree(n, many int, see func(over tree)) {
	eachList(many, 0, 1<<n-1, func(sets []int) {
		bags := make([][]int, many)
		for at, set := range sets {
			bags[at] = slices.DeleteFunc(upTo(n), func(v int) bool { return set>>v&1 == 0 })
		}
		eachList(many, -2, many, func(up []int) { see(tree{bags, up}) })
	})
}

func TestFitsOfAllSmallTrees(t *testing.T) {
	// of no nodes so many trees with a root fit, else so many ways to choose for each node bags that hang together, which meet for each edge
	for _, c := range []struct{ n, bags, fit int }{{0, 0, 1}, {0, 4, 64}, {1, 0, 0}, {1, 1, 1}, {1, 4, 656}, {2, 1, 2}, {2, 3, 558}, {3, 2, 312}, {3, 3, 10314}} {
		fit := 0
		for _, g := range small(c.n) {
			eachTree(c.n, c.bags, func(over tree) {
				want := liesOver(g, over.bags, over.up)
				wantFits(t, "a graph", g, over, want)
				if want {
					fit++
				}
			})
		}
		if fit != c.fit {
			t.Errorf("%d nodes, %d bags: %d trees fit, want %d", c.n, c.bags, fit, c.fit)
		}
	}
}

// Fits of what lies over bags, and of what is changed in one place then, by hand or not.
func TestFitsOfChangedTrees(t *testing.T) {
	fit, many := 0, 0
	for seed := range 1500 {
		draw := drawFrom(seed)
		n := 2 + draw(30)
		bags := 1 + draw(40)
		over, g := lying(n, 2+draw(8)+n/bags, bags, 20+draw(81), seed)
		wantFits(t, "what is made so", g, over, true)
		for range 10 {
			other := copied(over)
			spoilOne(other, n, draw)
			want := liesOver(g, other.bags, other.up)
			wantFits(t, "what is changed", g, other, want)
			many++
			if want {
				fit++
			}
		}
	}
	if fit < many/20 || fit > many/2 {
		t.Errorf("%d of %d fit", fit, many)
	}
}

// lying has a tree of bags, and a graph that lies over it.
func lying(n, size, bags, percent, seed int) (tree, api.Graph) {
	plain := grown(n, size, bags, seed)
	return turned(plain, seed), scrambled(over(plain, n, percent, seed))
}

// spoilOne takes a node out of a bag, puts one into a bag, or hangs a bag elsewhere.
func spoilOne(t tree, n int, draw func(n int) int) {
	at := draw(len(t.bags))
	bag := t.bags[at]
	switch v := draw(n); draw(4) {
	case 0:
		if len(bag) > 0 {
			i := draw(len(bag))
			t.bags[at] = slices.Delete(bag, i, i+1)
		}
	case 1:
		if !slices.Contains(bag, v) {
			t.bags[at] = append(bag, v)
		}
	case 2:
		t.up[at] = draw(len(t.up)+3) - 2
	case 3:
		t.bags[at], t.bags[len(t.bags)-1] = t.bags[len(t.bags)-1], t.bags[at]
	}
}

func TestFitsAtTheLimits(t *testing.T) {
	whole := upTo(api.MaxNodes)
	long := inARow(slices.Repeat([][]int{whole}, api.MaxNodes)...)
	wantFits(t, "all edges in all bags", some(100, 1000), long, true)
	wantFits(t, "bags one below the other, turned", some(100, 1000), turned(long, 1), true)
	wantFits(t, "one bag", some(100, 1000), inARow(whole), true)
	wantFits(t, "one bag without the last node", some(100, 1000), inARow(whole[:99]), false)
	wantFits(t, "a path", path(100), window(100, 2), true)
	wantFits(t, "a ring over a path's bags", ring(100), window(100, 2), false)
	wantFits(t, "a grid", grid(10, 10), window(100, 11), true)
	wantFits(t, "a grid over bags too small", grid(10, 10), window(100, 10), false)

	gap := copied(long)
	gap.bags[50] = whole[:99]
	wantFits(t, "a gap in the middle", of(100), gap, false)
	gap.bags[50] = whole[1:]
	wantFits(t, "a gap in the middle, of the first node", of(100), gap, false)
	wantFits(t, "a gap at the root", of(100), inARow(slices.Concat([][]int{whole[:63]}, long.bags[1:])...), true)
	around := copied(long)
	around.up[0] = 99
	wantFits(t, "all round", of(100), around, false)
	for seed := range 20 {
		over, g := lying(100, 12+seed*4, 100, 100, seed)
		wantFits(t, "as many nodes and bags as may be", g, over, true)
		for at, bag := range over.bags {
			if len(bag) == 0 || at%10 > 0 {
				continue
			}
			other := copied(over)
			other.bags[at] = bag[1:]
			wantFits(t, "a node fewer", g, other, liesOver(g, other.bags, other.up))
		}
	}
}
