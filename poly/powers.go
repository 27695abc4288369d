package poly

import "arbor/api"

// powers answers how many sets of edges of g have which powers of x - 1 and of y - 1; whole is how many components g has.
func powers(g api.Graph, whole int) map[[2]int]int {
	many := map[[2]int]int{}
	tryEdges(g, func(pieces, size int) {
		many[[2]int{pieces - whole, pieces + size - g.N}]++
	})
	return many
}

// expand answers the coefficients of the sum of so many of each of these powers of x - 1 and y - 1, up to the greatest powers that there are.
func expand(many map[[2]int]int, most [2]int) [][]int {
	table := make([][]int, most[0]+1)
	for i := range table {
		table[i] = make([]int, most[1]+1)
	}
	for power, count := range many {
		inX, inY := lessOne(power[0]), lessOne(power[1])
		for i, a := range inX {
			for j, b := range inY {
				table[i][j] += count * a * b
			}
		}
	}
	return table
}

// lessOne answers the coefficients of (x - 1)^power.
func lessOne(power int) []int {
	out := []int{1}
	for range power {
		out = append(out, 0)
		for i := len(out) - 1; i > 0; i-- {
			out[i] = out[i-1] - out[i]
		}
		out[0] = -out[0]
	}
	return out
}
