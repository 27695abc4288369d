package draw_test

import (
	"math"
	"testing"

	"arbor/api"
	"arbor/draw"
)

func wantClear(t *testing.T, name string, g api.Graph, at []api.Point, want bool) {
	t.Helper()
	if is, f := draw.Clear(g, at); is != want || f != (api.Fault{}) {
		t.Errorf("Clear of %s %v at %v: %v %v, want %v", name, g, at, is, f, want)
	}
}

func TestClearByHand(t *testing.T) {
	two := of(4, 0, 1, 2, 3)
	for _, c := range []struct {
		name string
		g    api.Graph
		at   []api.Point
		want bool
	}{
		{"no nodes", of(0), nil, true},
		{"a node", of(1), on(7, -7), true},
		{"two nodes", of(2), on(0, 0, 0, 1), true},
		{"two nodes at one point", of(2), on(5, 5, 5, 5), false},
		{"an edge of no length", of(2, 0, 1), on(5, 5, 5, 5), false},
		{"a triangle", ring(3), on(0, 0, 2, 0, 1, 1), true},
		{"a flat triangle", ring(3), on(0, 0, 2, 0, 1, 0), false},
		{"a flat path", path(3), on(0, 0, 1, 0, 2, 0), true},
		{"a path that goes back", path(3), on(0, 0, 2, 0, 1, 0), false},
		{"a path that goes back upright", path(3), on(4, 0, 4, 7, 4, 3), false},
		{"a path that goes back aslant", path(3), on(0, 0, 6, -4, 3, -2), false},
		{"a path that comes back to its beginning", path(3), on(1, 1, 3, 3, 1, 1), false},
		{"a node on an edge", of(3, 0, 1), on(0, 0, 4, 6, 2, 3), false},
		{"a node beside an edge", of(3, 0, 1), on(0, 0, 4, 6, 2, 2), true},
		{"a node behind an edge", of(3, 0, 1), on(0, 0, 4, 6, 6, 9), true},
		{"a node ahead of an edge", of(3, 0, 1), on(0, 0, 4, 6, -2, -3), true},
		{"a node at an edge's end", of(3, 0, 1), on(0, 0, 4, 6, 4, 6), false},
		{"a node on an upright edge", of(3, 2, 0), on(3, 9, 3, 5, 3, 1), false},
		{"a node above an upright edge", of(3, 2, 0), on(3, 9, 3, 10, 3, 1), true},
		{"a cross", two, on(0, 0, 2, 2, 0, 2, 2, 0), false},
		{"side by side", two, on(0, 0, 2, 0, 0, 2, 2, 2), true},
		{"a T", two, on(0, 0, 2, 0, 1, 0, 1, 2), false},
		{"a T with a gap", two, on(0, 0, 2, 0, 1, 1, 1, 2), true},
		{"end at end", two, on(0, 0, 2, 0, 2, 0, 4, 4), false},
		{"in one line, apart", two, on(0, 0, 1, 0, 2, 0, 3, 0), true},
		{"in one line, one on the other", two, on(0, 0, 2, 0, 1, 0, 3, 0), false},
		{"in one line, one in the other", two, on(0, 0, 9, 0, 5, 0, 3, 0), false},
		{"in one line, the same", two, on(0, 0, 9, 3, 9, 3, 0, 0), false},
		{"one would meet the other, longer", two, on(0, 0, 2, 0, 3, -1, 3, 1), true},
		{"a corner across a corner", of(4, 0, 1, 1, 2, 2, 3), on(0, 0, 4, 0, 4, 4, 2, -1), false},
		{"a star", star(5), on(0, 0, 1, 0, 0, 1, -1, 0, 0, -1), true},
		{"a star with two leaves in one line", star(3), on(0, 0, 1, 1, 2, 2), false},
		{"all of four, crossed", full(4), on(0, 0, 2, 0, 2, 2, 0, 2), false},
		{"all of four, one inside", full(4), on(0, 0, 9, 0, 0, 9, 2, 2), true},
		{"all of four, one on the rim", full(4), on(0, 0, 8, 0, 0, 8, 4, 4), false},
	} {
		wantClear(t, c.name, c.g, c.at, c.want)
		wantClear(t, c.name+", scrambled", scrambled(c.g), c.at, c.want)
		for turn, to := range turnings() {
			wantClear(t, c.name+", turned", c.g, moved(c.at, to), c.want)
			if isClear(c.g, moved(c.at, to)) != c.want {
				t.Errorf("the second account of %s, turning %d, is not %v", c.name, turn, c.want)
			}
		}
	}
}

// turnings keep a drawing clear, or keep it unclear.
func turnings() []func(p api.Point) api.Point {
	return []func(p api.Point) api.Point{
		func(p api.Point) api.Point { return api.Point{X: p.Y, Y: p.X} },
		func(p api.Point) api.Point { return api.Point{X: -p.X, Y: p.Y} },
		func(p api.Point) api.Point { return api.Point{X: -p.Y, Y: -p.X} },
		func(p api.Point) api.Point { return api.Point{X: p.X + 999940, Y: p.Y - 999990} },
		func(p api.Point) api.Point { return api.Point{X: p.X * 100000, Y: p.Y * -100000} },
		func(p api.Point) api.Point { return api.Point{X: p.X + 7*p.Y, Y: p.Y} },
		func(p api.Point) api.Point { return api.Point{X: p.X * 90000, Y: p.Y - 11*p.X} },
	}
}

// allOn goes through all drawings of n nodes with X below width and Y below height.
func allOn(n, width, height int, yield func(at []api.Point)) {
	places := width * height
	many := 1
	for range n {
		many *= places
	}
	at := make([]api.Point, n)
	for number := range many {
		for v := range at {
			at[v] = api.Point{X: number % places % width, Y: number % places / width}
			number /= places
		}
		yield(at)
	}
}

func TestClearOfAllSmallDrawings(t *testing.T) {
	for _, c := range []struct{ n, width, height int }{{1, 2, 2}, {2, 3, 3}, {3, 4, 3}, {3, 5, 1}, {4, 3, 3}, {4, 4, 2}, {4, 1, 5}} {
		for _, g := range small(c.n) {
			allOn(c.n, c.width, c.height, func(at []api.Point) {
				wantClear(t, "a graph", g, at, isClear(g, at))
			})
		}
	}
	for _, g := range []api.Graph{of(5, 0, 1, 2, 3, 4, 0), star(5), scrambled(path(5)), ring(5), of(5, 1, 3, 2, 4)} {
		allOn(5, 3, 3, func(at []api.Point) {
			wantClear(t, "a graph of five", g, at, isClear(g, at))
		})
	}
}

func TestClearOfMixedDrawings(t *testing.T) {
	clear := 0
	for seed := range 20000 {
		next := drawFrom(seed)
		n := 3 + next(8)
		g := mixed(n, next(2*n), seed)
		at := scattered(n, []int{2, 4, 10, 1000, api.MaxValue}[next(5)], next)
		is := isClear(g, at)
		if is {
			clear++
		}
		wantClear(t, "a mixed graph", g, at, is)
	}
	if clear < 2000 || clear > 18000 {
		t.Errorf("%d of 20000 mixed drawings are clear: too few of the one kind are tried", clear)
	}
}

// A clear drawing of as many edges as may be is clear no more, when two nodes change their places, or one goes elsewhere; or if it still is, the second account says so, too.
func TestClearOfDrawingsThatAreNearlyClear(t *testing.T) {
	for seed := range 400 {
		next := drawFrom(seed)
		g := packed(4+seed%21, seed, seed)
		at, _ := draw.Draw(g)
		for _, to := range turnings()[:4] {
			wantClear(t, "a packed graph", g, moved(at, to), true)
		}
		u, v := next(g.N), next(g.N)
		at[u], at[v] = at[v], at[u]
		wantClear(t, "two changed", g, at, isClear(g, at))
		at[u], at[v] = at[v], at[u]
		at[u].X += next(3) - 1
		at[u].Y += next(3) - 1
		wantClear(t, "one moved", g, at, isClear(g, at))
		less := thinned(g, 80, seed)
		wantClear(t, "one moved, fewer edges", less, at, isClear(less, at))
	}
}

// At the limits numbers are as great as may be, and lines pass each other as near as may be.
func TestClearAtTheLimits(t *testing.T) {
	m := api.MaxValue
	two := of(4, 0, 1, 2, 3)
	for _, c := range []struct {
		name string
		g    api.Graph
		at   []api.Point
		want bool
	}{
		{"a great cross", two, on(-m, -m, m, m, -m, m, m, -m), false},
		{"one beside the other", two, on(-m, -m, m, m, -m, -m+1, m-1, m), true},
		{"one beside the other, and they cross", two, on(-m, -m, m, m, -m, -m+1, m, m-1), false},
		{"a node on a great edge", of(3, 0, 1), on(-m, -m, m, m, 0, 0), false},
		{"a node beside a great edge", of(3, 0, 1), on(-m, -m, m, m, 0, 1), true},
		{"a node just beside a great edge", of(3, 0, 1), on(-m, -m, m, m-1, 0, 0), true},
		{"a node as near as may be", of(3, 0, 1), on(-m, -m, m, m-1, m-1, m-2), true},
		{"in one line", two, on(-m, -m, -1, -1, m, m, 0, 0), true},
		{"in one line, at a point", two, on(-m, -m, 0, 0, m, m, 0, 0), false},
		{"a great triangle", ring(3), on(-m, -m, m, -m, -m, m), true},
		{"a thin triangle", ring(3), on(-m, -m, m, m, -m, -m+1), true},
	} {
		wantClear(t, c.name, c.g, c.at, c.want)
		if isClear(c.g, c.at) != c.want {
			t.Errorf("the second account of %s is not %v", c.name, c.want)
		}
	}
	n := api.MaxNodes
	bow := make([]api.Point, n)
	for v := range bow {
		bow[v] = api.Point{X: v, Y: v * v}
	}
	wantClear(t, "a ring as a bow", ring(n), bow, true)
	wantClear(t, "a fan in a bow", star(n), bow, true)
	wantClear(t, "a ring as a bow, and two edges across", with(ring(n), 0, 50, 25, 75), bow, false)
	wantClear(t, "all edges there may be", some(n, api.MaxEdges), bow, false)
	row := make([]api.Point, n)
	for v := range row {
		row[v] = api.Point{X: v%10*1000 - v/10, Y: v / 10 * 1000}
	}
	wantClear(t, "a grid", grid(10, 10), row, true)
	wantClear(t, "a net", net(10, 10, 1), row, true)
	wantClear(t, "a grid and an edge", with(grid(10, 10), 0, 99), row, isClear(with(grid(10, 10), 0, 99), row))
}

func TestClearFaults(t *testing.T) {
	m := api.MaxValue
	odd := []int{m + 1, -m - 1, math.MaxInt, math.MinInt}
	for _, g := range []api.Graph{of(0), of(1), of(3), ring(3), full(5), of(api.MaxNodes)} {
		for _, many := range []int{0, 1, g.N - 1, g.N + 1, g.N + 100} {
			if many < 0 || many == g.N {
				continue
			}
			for _, x := range []int{0, 1, m + 1} {
				at := make([]api.Point, many)
				for i := range at {
					at[i].X = i * x
				}
				is, f := draw.Clear(g, at)
				wantFault(t, "Clear without a point for each node", answer{is: is}, f, fault(api.ErrSize, 0))
			}
		}
		for v := range g.N {
			for _, x := range odd {
				at := scattered(g.N, m, drawFrom(v))
				at[g.N-1] = api.Point{X: -m - 1, Y: m + 1}
				at[v].X = x
				is, f := draw.Clear(g, at)
				wantFault(t, "Clear with an odd X", answer{is: is}, f, fault(api.ErrRange, v))
				at[v] = api.Point{X: m, Y: x}
				is, f = draw.Clear(g, at)
				wantFault(t, "Clear with an odd Y", answer{is: is}, f, fault(api.ErrRange, v))
			}
		}
	}
	for _, p := range on(m, m, -m, m, m, -m, -m, -m, 0, m, -m, 0) {
		wantClear(t, "a node at the limits", of(1), []api.Point{p}, true)
	}
}
