package width

// step is the last one of some nodes to be taken away, and the width of the bags that come of them.
type step struct {
	width int
	last  int
}

// leastOrder answers an order in which to take the nodes away, one by one, so that the greatest of the bags that come of them is as small as can be, and its width. Which nodes a bag has hangs on those that were taken away ahead, not on their order: so it is enough to try, of each set, which one goes last.
func leastOrder(near []set) (width int, order []int) {
	known := map[set]step{{}: {width: none}}
	var lastOf func(gone set) step
	lastOf = func(gone set) step {
		if s, ok := known[gone]; ok {
			return s
		}
		best := step{width: len(near)}
		for _, v := range gone.rising() {
			ahead := gone.without(v)
			wide := max(lastOf(ahead).width, behind(near, ahead, v).size())
			if wide < best.width {
				best = step{wide, v}
			}
		}
		known[gone] = best
		return best
	}
	left := all(len(near))
	width = lastOf(left).width
	order = make([]int, len(near))
	for at := len(near) - 1; at >= 0; at-- {
		order[at] = lastOf(left).last
		left.drop(order[at])
	}
	return width, order
}

// behind answers those nodes, of the ones that are not gone yet, to which ways lead from v through none but gone ones.
func behind(near []set, gone set, v int) set {
	reached := near[v]
	through := set{}.with(v)
	for {
		next := reached.both(gone).less(through)
		if next.isEmpty() {
			return reached.less(gone).without(v)
		}
		for _, u := range next.rising() {
			reached = reached.either(near[u])
		}
		through = through.either(next)
	}
}

// bagsAlong makes a bag of each node as it is taken away, with those behind it to which it leads. It hangs at the bag of the first one of these; if there is none, at the next bag, so that all hang together.
func bagsAlong(near []set, order []int) (bags [][]int, up []int) {
	var gone set
	for at, v := range order {
		led := behind(near, gone, v)
		bags = append(bags, led.with(v).rising())
		up = append(up, firstIn(order, at+1, led))
		gone.add(v)
	}
	return bags, up
}

// firstIn answers where the first one of some nodes stands, from a place on; this place, if there are no such nodes, and none behind the last one.
func firstIn(order []int, from int, some set) int {
	if from == len(order) {
		return none
	}
	for at := from; at < len(order); at++ {
		if some.has(order[at]) {
			return at
		}
	}
	return from
}
