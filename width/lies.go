package width

import "arbor/api"

// lies tells whether g, which has no fault, lies over the bags.
func lies(g api.Graph, bags []set, up []int) bool {
	if len(bags) == 0 {
		return g.N == 0
	}
	return isTree(up) && holdEach(g.Edges, bags) && hangTogether(g.N, bags, up)
}

// isTree tells whether there is one root, to which one comes from all bags.
func isTree(up []int) bool {
	roots := 0
	for at, above := range up {
		if above == none {
			roots++
		}
		if !comesToRoot(up, at) {
			return false
		}
	}
	return roots == 1
}

// comesToRoot goes up from a bag, at most as often as there are bags: who has not come to a root by then goes round in a ring.
func comesToRoot(up []int, at int) bool {
	for range up {
		if at < 0 || at >= len(up) {
			break
		}
		at = up[at]
	}
	return at == none
}

// holdEach tells whether each edge has both of its nodes in some bag.
func holdEach(edges [][2]int, bags []set) bool {
	missing := map[[2]int]struct{}{}
	for _, e := range edges {
		missing[e] = struct{}{}
	}
	for _, bag := range bags {
		for e := range missing {
			if bag.has(e[0]) && bag.has(e[1]) {
				delete(missing, e)
			}
		}
	}
	return len(missing) == 0
}

// hangTogether tells whether of each of n nodes just one bag has it that has it not in the bag above, too; a node that is in no bag has none.
func hangTogether(n int, bags []set, up []int) bool {
	tops := make([]int, n)
	for at, bag := range bags {
		for _, v := range bag.less(bagAbove(bags, up, at)).rising() {
			tops[v]++
		}
	}
	for _, many := range tops {
		if many != 1 {
			return false
		}
	}
	return true
}

// bagAbove answers what is in the bag above; above the root there is nothing.
func bagAbove(bags []set, up []int, at int) set {
	if up[at] == none {
		return set{}
	}
	return bags[up[at]]
}
