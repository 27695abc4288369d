package minor

// tryPieces tells see of all choices of so many sets of nodes, each of which hangs together and no two of which have a node together, until see says that one will do; it answers whether one did. The pieces stand in the order of their least nodes, so that each choice comes once.
func tryPieces(near []set, many int, see func(pieces []set) bool) bool {
	together := make([]bool, 1<<len(near)) // asked again and again, so found out ahead
	for s := set(1); s <= below(len(near)); s++ {
		together[s] = hangsTogether(near, s)
	}
	var pieces []set
	var from func(left set) bool
	from = func(left set) bool {
		missing := many - len(pieces)
		if missing == 0 {
			return see(pieces)
		}
		if left.size() < missing {
			return false
		}
		first := only(left.least())
		left &^= first
		for others := range left.parts() {
			if !together[first|others] {
				continue
			}
			pieces = append(pieces, first|others)
			if from(left &^ others) {
				return true
			}
			pieces = pieces[:len(pieces)-1]
		}
		return from(left) // without the first one
	}
	return from(below(len(near)))
}

// firstFit answers the least list of nodes of a graph, one for each node of the wanted one, that have an edge where that has one, if there is one. near and wanted have of each node those near it.
func firstFit(near, wanted []set) ([]int, bool) {
	var to []int
	var from func(left set) bool
	from = func(left set) bool {
		v := len(to)
		if v == len(wanted) {
			return true
		}
		open := left
		for ahead := wanted[v] & below(v); ahead != 0; ahead &= ahead - 1 {
			open &= near[to[ahead.least()]]
		}
		for ; open != 0; open &= open - 1 {
			to = append(to, open.least())
			if from(left &^ only(open.least())) {
				return true
			}
			to = to[:v]
		}
		return false
	}
	if !from(below(len(near))) {
		return nil, false
	}
	return to, true
}
