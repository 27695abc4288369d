package draw

import (
	"slices"

	"arbor/api"
)

// Nodes are laid as de Fraysseix, Pach and Pollack have shown: one by one, each above a rim that goes from the first one to the second one, and on which each edge goes up or down by as much as it goes to the right.

// order answers the nodes in the order in which they are laid: the first two have an edge that is outside, and each further one has edges with two or more that stand side by side on the rim of those ahead of it. It is found from the end: from the rim is taken a node with edges to no more than those beside it there.
func (t *tiling) order() []int {
	first, second := t.outer[0], t.outer[1]
	rim := []int{first, t.outer[2], second}
	var order []int
	for len(rim) > 2 {
		at := t.loose(rim)
		order = append(order, rim[at])
		rim = slices.Replace(rim, at, at+1, t.below(rim[at-1], rim[at], rim[at+1])...)
	}
	order = append(order, second, first)
	slices.Reverse(order)
	return order
}

// loose answers the place of a node between the rim's ends that has edges with two nodes of the rim alone. There is one: of the edges from rim to rim, that between its ends with them, take one that goes over as few nodes as may be, and any of these.
func (t *tiling) loose(rim []int) int {
	at := 1
	for t.countNear(rim, rim[at]) > 2 {
		at++
	}
	return at
}

func (t *tiling) countNear(rim []int, v int) int {
	many := 0
	for _, u := range rim {
		if t.near[v][u] {
			many++
		}
	}
	return many
}

// below answers the nodes that come to the rim, when v is taken from it between left and right.
func (t *tiling) below(left, v, right int) []int {
	var nodes []int
	for u := t.third[[2]int{left, v}]; u != right; u = t.third[[2]int{u, v}] {
		nodes = append(nodes, u)
	}
	return nodes
}

// place lays the nodes in their order. For each one, those of the rim that it will stand above move to the right by one, and those behind them by two, each with all that it stands above: so no edges come to cross, and there is room for the new one.
func (t *tiling) place(order []int) []api.Point {
	at := make([]api.Point, len(order))
	above := make([][]int, len(order)) // of each node itself, and all that it stands above
	for _, v := range order {
		above[v] = []int{v}
	}
	move := func(nodes []int, by int) {
		for _, v := range nodes {
			for _, u := range above[v] {
				at[u].X += by
			}
		}
	}
	rim := slices.Clone(order[:2])
	for _, v := range order[2:] {
		isNear := func(u int) bool { return t.near[u][v] }
		left := slices.IndexFunc(rim, isNear)
		right := left + t.countNear(rim, v) - 1
		covered := rim[left+1 : right]
		move(covered, 1)
		move(rim[right:], 2)
		at[v] = top(at[rim[left]], at[rim[right]])
		for _, u := range covered {
			above[v] = append(above[v], above[u]...)
		}
		rim = slices.Replace(rim, left+1, right, v)
	}
	return at
}

// top answers the point to which it goes up from a by as much as to the right, and down from there to b so.
func top(a, b api.Point) api.Point {
	return api.Point{X: (b.X + b.Y + a.X - a.Y) / 2, Y: (b.X + b.Y - a.X + a.Y) / 2}
}
