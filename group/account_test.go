package group_test

import "slices"

// A second account of what the chapter says, as near to its words as may be, and no matter how slow.

// groupOf has all that come of gens, one done behind the other, and the one by which nothing moves.
func groupOf(n int, gens [][]int) map[string]bool {
	all := map[string]bool{key(still(n)): true}
	fresh := [][]int{still(n)}
	for len(fresh) > 0 {
		p := fresh[0]
		fresh = fresh[1:]
		for _, g := range gens {
			if q := then(p, g); !all[key(q)] {
				all[key(q)] = true
				fresh = append(fresh, q)
			}
		}
	}
	return all
}

// key tells a permutation of fewer than 256 numbers.
func key(p []int) string {
	b := make([]byte, len(p))
	for i, to := range p {
		b[i] = byte(to)
	}
	return string(b)
}

// orbitsOf has the numbers below n, those together that one of the group takes to each other.
func orbitsOf(n int, all map[string]bool) [][]int {
	together := make([][]bool, n)
	for i := range together {
		together[i] = make([]bool, n)
		for p := range all {
			together[i][p[i]] = true
		}
	}
	var out [][]int
	for i := range n {
		if slices.Index(together[i], true) < i {
			continue
		}
		var l []int
		for j := range n {
			if together[i][j] {
				l = append(l, j)
			}
		}
		out = append(out, l)
	}
	return out
}

// joinedOrbits has the same of permutations whose group is too great to be gone through: of two numbers that one of gens takes to each other, both get the lesser name, until nothing changes.
func joinedOrbits(n int, gens [][]int) [][]int {
	name := still(n)
	for changed := true; changed; {
		changed = false
		for _, g := range gens {
			for i, to := range g {
				if least := min(name[i], name[to]); name[i] != least || name[to] != least {
					name[i], name[to], changed = least, least, true
				}
			}
		}
	}
	var out [][]int
	for i := range n {
		var l []int
		for j := range n {
			if name[j] == i {
				l = append(l, j)
			}
		}
		if len(l) > 0 {
			out = append(out, l)
		}
	}
	return out
}

// isEven: it comes of an even number of swaps.
func isEven(p []int) bool {
	even := true
	for i := range p {
		for j := range i {
			if p[j] > p[i] {
				even = !even
			}
		}
	}
	return even
}
