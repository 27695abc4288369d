package assign

import "slices"

// askAll lets each of a ask those of b, the best one first, until one keeps it; who is sent away for a better one goes on asking. Nobody is ever sent away by one whom it could have, so each of a has its best one in the end.
func askAll(a, b [][]int) (has []int) {
	has = slices.Repeat([]int{none}, len(b)) // of each of b the one of a that it keeps
	places := placesIn(b)
	asked := make([]int, len(a)) // of each of a how many it has asked
	for i := range len(a) {
		for one := i; one != none; {
			j := a[one][asked[one]]
			asked[one]++
			if has[j] == none || places[j][one] < places[j][has[j]] {
				one, has[j] = has[j], one
			}
		}
	}
	return has
}

// placesIn answers for each list at which place it names each one.
func placesIn(lists [][]int) [][]int {
	places := make([][]int, len(lists))
	for j, names := range lists {
		places[j] = make([]int, len(names))
		for place, name := range names {
			places[j][name] = place
		}
	}
	return places
}
