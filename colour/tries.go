package colour

import "slices"

// try goes through all colourings with at most so many colours in which no colour comes ahead of a lesser one, since the others are these with other names for the colours. It tells see of each, and how many colours it has, and ends when see says that it is enough.
func try(near []set, limit int, see func(colours []int, used int) bool) bool {
	colours := make([]int, len(near))
	with := make([]set, limit) // of each colour the nodes that have it
	var from func(v, used int) bool
	from = func(v, used int) bool {
		if v == len(near) {
			return see(colours, used)
		}
		for colour := range min(used+1, limit) {
			if with[colour]&near[v] != 0 {
				continue
			}
			colours[v] = colour
			with[colour] |= only(v)
			if from(v+1, max(used, colour+1)) {
				return true
			}
			with[colour] &^= only(v)
		}
		return false
	}
	return from(0, 0)
}

// colouring answers a colouring with at most so many colours, if there is one.
func colouring(near []set, limit int) (found []int, ok bool) {
	ok = try(near, limit, func(colours []int, _ int) bool {
		found = colours
		return true
	})
	return found, ok
}

// partings answers in how many ways the nodes can be parted into 0, 1, .. sets of nodes without an edge between them.
func partings(near []set) []int {
	ways := make([]int, len(near)+1)
	try(near, len(near), func(_ []int, used int) bool {
		ways[used]++
		return false
	})
	return ways
}

// sumOfFalling answers the coefficients of the sum, over all k, of ways[k] times x (x - 1) .. (x - k + 1): so many colourings, with colours below x, part the nodes in one of these ways.
func sumOfFalling(ways []int) []int {
	sum := make([]int, len(ways))
	falling := []int{1}
	for k, many := range ways {
		for i, c := range falling {
			sum[i] += many * c
		}
		falling = timesXLess(falling, k)
	}
	return sum
}

// timesXLess answers the coefficients of p times x - k.
func timesXLess(p []int, k int) []int {
	out := make([]int, len(p)+1)
	for i, c := range p {
		out[i+1] += c
		out[i] -= k * c
	}
	return out
}

// greatestClique tries the cliques in their order as lists, and leaves out those that can't come to more nodes than the best one so far: so of several greatest ones the least is kept.
func greatestClique(near []set) []int {
	var best, clique []int
	var from func(open set)
	from = func(open set) {
		if len(clique) > len(best) {
			best = slices.Clone(clique)
		}
		for len(clique)+open.size() > len(best) {
			v := open.least()
			open &^= only(v)
			clique = append(clique, v)
			from(open & near[v])
			clique = clique[:len(clique)-1]
		}
	}
	from(below(len(near)))
	return best
}
