package group

import (
	"slices"

	"arbor/api"
)

// check tells the first thing that is wrong with permutations of n.
func check(n int, gens [][]int) api.Fault {
	if n < 0 || n > api.MaxNodes || len(gens) > api.MaxNodes {
		return api.Fault{Code: api.ErrMany}
	}
	for at, g := range gens {
		if code := checkOne(n, g); code != api.OK {
			return api.Fault{Code: code, At: at}
		}
	}
	return api.Fault{}
}

// checkOne tells the code of what is wrong with a permutation of n.
func checkOne(n int, p []int) int {
	if len(p) != n {
		return api.ErrSize
	}
	for at, to := range p {
		if to < 0 || to >= n {
			return api.ErrRange
		}
		if slices.Contains(p[:at], to) {
			return api.ErrTwice
		}
	}
	return api.OK
}
