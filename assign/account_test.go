package assign_test

import (
	"math/bits"
	"slices"
)

// leastTotal is a second account of what the rows have to cost: for each set of columns what it costs to give them to the first rows.
func leastTotal(cost [][]int) int {
	n := len(cost)
	least := make([]int, 1<<n)
	for set := 1; set < 1<<n; set++ {
		row := bits.OnesCount(uint(set)) - 1
		known := false
		for col := range n {
			if set>>col&1 == 0 {
				continue
			}
			if total := least[set&^(1<<col)] + cost[row][col]; !known || total < least[set] {
				least[set], known = total, true
			}
		}
	}
	return least[1<<n-1]
}

// likes: does one with this list rather have x than y?
func likes(list []int, x, y int) bool { return slices.Index(list, x) < slices.Index(list, y) }

// isStable: are there no two who would both rather have each other?
func isStable(a, b [][]int, to []int) bool {
	for i := range a {
		for j := range b {
			if likes(a[i], j, to[i]) && likes(b[j], i, slices.Index(to, j)) {
				return false
			}
		}
	}
	return true
}

// bestByTrying is a second account of Stable: of all answers that are stable, for each of a the best one that it has in any.
func bestByTrying(a, b [][]int, all [][]int) []int {
	best := make([]int, len(a))
	for i := range best {
		best[i] = -1
	}
	for _, to := range all {
		if !isStable(a, b, to) {
			continue
		}
		for i, j := range to {
			if best[i] == -1 || likes(a[i], j, best[i]) {
				best[i] = j
			}
		}
	}
	return best
}

// canRise: is there a stable answer that is better for some of a than this stable one? Each of b would next have the best one of a, behind whom it has, that would rather have it; there is a better answer just if some of b go round so in a ring.
func canRise(a, b [][]int, to []int) bool {
	n := len(a)
	next := make([]int, n) // of each of b the one that loses its own to it, or -1
	for j := range b {
		next[j] = -1
		for _, i := range b[j][slices.Index(b[j], slices.Index(to, j))+1:] {
			if likes(a[i], j, to[i]) {
				next[j] = to[i]
				break
			}
		}
	}
	for j := range n {
		for range n {
			if j != -1 {
				j = next[j]
			}
		}
		if j != -1 {
			return true
		}
	}
	return false
}
