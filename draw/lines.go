package draw

import (
	"cmp"
	"slices"

	"arbor/api"
)

// oneMeets tells whether a node meets another one, or an edge that is not its own.
func oneMeets(edges [][2]int, at []api.Point) bool {
	for v, p := range at {
		if slices.Contains(at[:v], p) {
			return true
		}
		meets := func(e [2]int) bool { return !hasEnd(e, v) && isOn(p, at[e[0]], at[e[1]]) }
		if slices.ContainsFunc(edges, meets) {
			return true
		}
	}
	return false
}

// twoCross tells whether two edges go across each other. Where no node meets an edge that is not its own, edges can have nothing else together but a node: of two that touch, or lie on each other, one has a node that meets the other.
func twoCross(edges [][2]int, at []api.Point) bool {
	for i, e := range edges {
		a, b := at[e[0]], at[e[1]]
		crosses := func(o [2]int) bool {
			c, d := at[o[0]], at[o[1]]
			return side(a, b, c)*side(a, b, d) < 0 && side(c, d, a)*side(c, d, b) < 0
		}
		if slices.ContainsFunc(edges[:i], crosses) {
			return true
		}
	}
	return false
}

func hasEnd(e [2]int, v int) bool { return e[0] == v || e[1] == v }

// isOn tells whether p is on the line between a and b, its ends with it.
func isOn(p, a, b api.Point) bool {
	return side(a, b, p) == 0 && isBetween(p.X, a.X, b.X) && isBetween(p.Y, a.Y, b.Y)
}

func isBetween(x, a, b int) bool { return min(a, b) <= x && x <= max(a, b) }

// side answers 1 if p lies to the left of who goes from a to b, -1 if to the right, and 0 if straight on or behind.
func side(a, b, p api.Point) int {
	return cmp.Compare((b.X-a.X)*(p.Y-a.Y), (b.Y-a.Y)*(p.X-a.X))
}
