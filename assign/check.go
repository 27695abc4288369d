package assign

import (
	"slices"

	"arbor/api"
)

func isValue(x int) bool { return -api.MaxValue <= x && x <= api.MaxValue }

// checkCost tells the first thing that is wrong with rows of numbers, as many as there are rows.
func checkCost(cost [][]int) api.Fault {
	if len(cost) > api.MaxNodes {
		return api.Fault{Code: api.ErrMany}
	}
	for at, row := range cost {
		if len(row) != len(cost) {
			return api.Fault{Code: api.ErrSize, At: at}
		}
		for _, x := range row {
			if !isValue(x) {
				return api.Fault{Code: api.ErrRange, At: at}
			}
		}
	}
	return api.Fault{}
}

// checkLikings tells the first thing that is wrong with the lists of whom each of a and of b likes.
func checkLikings(a, b [][]int) api.Fault {
	n := len(a)
	if n > api.MaxNodes {
		return api.Fault{Code: api.ErrMany}
	}
	if len(b) != n {
		return api.Fault{Code: api.ErrSize, At: n}
	}
	for at := range 2 * n {
		names := nthOf(a, b, at)
		if code := checkNames(names, n); code != api.OK {
			return api.Fault{Code: code, At: at}
		}
	}
	return api.Fault{}
}

// nthOf answers the list of this number, those of b counted behind those of a.
func nthOf(a, b [][]int, at int) []int {
	if at < len(a) {
		return a[at]
	}
	return b[at-len(a)]
}

// checkNames tells the code of what is wrong with a list that is to name each of n.
func checkNames(names []int, n int) int {
	if len(names) != n {
		return api.ErrSize
	}
	for at, name := range names {
		if name < 0 || name >= n {
			return api.ErrRange
		}
		if slices.Contains(names[:at], name) {
			return api.ErrTwice
		}
	}
	return api.OK
}
