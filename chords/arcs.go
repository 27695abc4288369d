package chords

import (
	"cmp"
	"slices"
)

// direct gives each edge a direction, so that where arcs lead from x to y and from y to z, one leads from x to z; or tells that there are none such. An edge gets one of the two, and with it go all those that must; these edges are taken out of near, and all begins again with what is left. Where there are directions at all, this comes to some, whichever edge is taken first (a theorem of Golumbic's).
func direct(near []set, edges [][2]int) (arcs [][2]int, ok bool) {
	for _, e := range edges {
		if !near[e[0]].has(e[1]) {
			continue
		}
		class := forced(near, e)
		for arc := range class {
			if _, ok := class[[2]int{arc[1], arc[0]}]; ok {
				return nil, false
			}
		}
		for arc := range class {
			part(near, arc[0], arc[1])
			arcs = append(arcs, arc)
		}
	}
	slices.SortFunc(arcs, func(a, b [2]int) int {
		return cmp.Or(cmp.Compare(a[0], b[0]), cmp.Compare(a[1], b[1]))
	})
	return arcs, true
}

// forced answers an arc with all those that must go with it: if two edges have a node together, and there is none between their other nodes, both lead to that node or both away from it; or else an arc would have to lead where there is no edge.
func forced(near []set, first [2]int) map[[2]int]struct{} {
	class := map[[2]int]struct{}{}
	var follow func(from, to int)
	follow = func(from, to int) {
		arc := [2]int{from, to}
		if _, ok := class[arc]; ok {
			return
		}
		class[arc] = struct{}{}
		for v := range near[from] {
			if v != to && !near[to].has(v) {
				follow(from, v)
			}
		}
		for v := range near[to] {
			if v != from && !near[from].has(v) {
				follow(v, to)
			}
		}
	}
	follow(first[0], first[1])
	return class
}

// layOut answers an interval for each of n nodes, so that one ends ahead of another just if an arc leads from the one to the other. It begins at the number of nodes ahead of its own, and ends right ahead of where the first one behind it begins.
// That does, because of any two nodes all those ahead of the one are ahead of the other, too, or the other way round: if u were ahead of x alone, and v ahead of y alone, then u, v, x, y would be a ring without a chord in the graph whose nodes without an edge the arcs are between.
func layOut(n int, arcs [][2]int) [][2]int {
	intervals := slices.Repeat([][2]int{{0, n}}, n)
	for _, arc := range arcs {
		intervals[arc[1]][0]++
	}
	for _, arc := range arcs {
		begin := intervals[arc[1]][0]
		intervals[arc[0]][1] = min(intervals[arc[0]][1], begin-1)
	}
	return intervals
}
