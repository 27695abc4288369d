package chords

import "slices"

// wholeCliques answers all cliques that are part of no other one, each rising, in the order of lists.
func wholeCliques(near []set) [][]int {
	if len(near) == 0 {
		return nil
	}
	var found [][]int
	clique := set{}
	// Of the nodes that have an edge with all of the clique, those in open may still come to it; with those in shut all has been tried.
	var grow func(open, shut set)
	grow = func(open, shut set) {
		if len(open)+len(shut) == 0 {
			found = append(found, clique.rising())
			return
		}
		// A clique of nodes near the pivot alone is not whole, for the pivot could come to it: so one that is not near it must.
		pivot := pivotOf(near, open, shut)
		for v := range open.sift(func(v int) bool { return !near[pivot].has(v) }) {
			clique.add(v)
			grow(open.sift(near[v].has), shut.sift(near[v].has))
			delete(clique, v)
			delete(open, v)
			shut.add(v)
		}
	}
	grow(all(len(near)), set{})
	slices.SortFunc(found, func(a, b []int) int { return slices.Compare(a, b) })
	return found
}

// pivotOf answers a node of either set, so that as few nodes as can be are open and not near it: that keeps what is tried little. One of the sets has nodes.
func pivotOf(near []set, open, shut set) int {
	pivot, most := none, -1
	for _, nodes := range []set{open, shut} {
		for v := range nodes {
			if many := len(open.sift(near[v].has)); many > most {
				pivot, most = v, many
			}
		}
	}
	return pivot
}
