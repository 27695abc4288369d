package draw_test

import "arbor/api"

// A second account of what the chapter says, as near to its words as may be, and no matter how slow.

// isClear: no two nodes have the same point, no edge meets a node that is not one of its own two, and no two edges without a node together have a point together.
func isClear(g api.Graph, at []api.Point) bool {
	for u := range g.N {
		for v := range g.N {
			if u != v && at[u] == at[v] {
				return false
			}
		}
	}
	for _, e := range g.Edges {
		for v := range g.N {
			if v != e[0] && v != e[1] && meets(line{at[e[0]], at[e[1]]}, line{at[v], at[v]}) {
				return false
			}
		}
		for _, o := range g.Edges {
			apart := e[0] != o[0] && e[0] != o[1] && e[1] != o[0] && e[1] != o[1]
			if apart && meets(line{at[e[0]], at[e[1]]}, line{at[o[0]], at[o[1]]}) {
				return false
			}
		}
	}
	return true
}

// line has the points a + t (b - a), t from 0 to 1.
type line struct{ a, b api.Point }

func minus(p, q api.Point) api.Point { return api.Point{X: p.X - q.X, Y: p.Y - q.Y} }

func cross(p, q api.Point) int { return p.X*q.Y - p.Y*q.X }

func dot(p, q api.Point) int { return p.X*q.X + p.Y*q.Y }

// meets tells whether two lines have a point together. a + t (b - a) = c + s (d - c) has one t and one s, if the lines have other ways to go; else two that meet have an end of the one or of the other.
func meets(l, m line) bool {
	going, other, from := minus(l.b, l.a), minus(m.b, m.a), minus(m.a, l.a)
	if by := cross(going, other); by != 0 {
		return isPart(cross(from, other), by) && isPart(cross(from, going), by)
	}
	return goesTo(l, m.a) || goesTo(l, m.b) || goesTo(m, l.a) || goesTo(m, l.b)
}

// isPart tells whether x / by is from 0 to 1.
func isPart(x, by int) bool {
	if by < 0 {
		x, by = -x, -by
	}
	return 0 <= x && x <= by
}

// goesTo tells whether p is on the line: its ends lie in one line with it, and not both on one side.
func goesTo(l line, p api.Point) bool {
	a, b := minus(l.a, p), minus(l.b, p)
	return cross(a, b) == 0 && dot(a, b) <= 0
}

// isOnGrid: X from 0 to 2 N - 4 and Y from 0 to N - 2, if there are three nodes or more; else X from 0 to 1, and Y is 0.
func isOnGrid(n int, at []api.Point) bool {
	width, height := 1, 0
	if n >= 3 {
		width, height = 2*n-4, n-2
	}
	for _, p := range at {
		if p.X < 0 || p.X > width || p.Y < 0 || p.Y > height {
			return false
		}
	}
	return len(at) == n
}
