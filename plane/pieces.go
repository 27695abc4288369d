package plane

// piece is what is still to be laid between nodes that are: inner nodes that hang together, with all their edges, or one edge alone, without inner nodes. Its feet are the nodes laid to which its edges go; all of it must come into one face that has them all.
type piece struct {
	inner, feet set
}

// piecesOf answers the pieces that come of it, when the fresh nodes are laid beside those that were: the edges between them, and what hangs together of the rest. Those with one foot or none are left out: they fit anywhere, whatever comes, and are laid on their own.
func piecesOf(near []set, laid set, fresh []int, rest set) []piece {
	var out []piece
	for _, v := range fresh {
		for u := range near[v].both(laid).rising {
			out = append(out, piece{feet: setOf([]int{u, v})})
		}
		laid.add(v)
	}
	for !rest.isEmpty() {
		p := grow(near, laid, rest)
		rest = rest.less(p.inner)
		if p.feet.count() > 1 {
			out = append(out, p)
		}
	}
	return out
}

// grow answers the piece of the first node of the rest.
func grow(near []set, laid, rest set) piece {
	var p piece
	open := setOf([]int{rest.first()})
	for !open.isEmpty() {
		v := open.first()
		open.drop(v)
		p.inner.add(v)
		p.feet = p.feet.either(near[v].both(laid))
		open = open.either(near[v].both(rest).less(p.inner))
	}
	return p
}

// wayThrough answers a way from a foot of the piece through its inner nodes to another foot.
func (p piece) wayThrough(near []set) []int {
	from := p.feet.first()
	others := p.feet
	others.drop(from)
	if p.inner.isEmpty() {
		return []int{from, others.first()}
	}
	back := make([]int, len(near)) // of each node that was met the one from which it was
	met := setOf([]int{from})
	queue := []int{from}
	for at := 0; at < len(queue); at++ {
		v := queue[at]
		if last := near[v].both(others); v != from && !last.isEmpty() {
			back[last.first()] = v
			return goBack(back, last.first(), from)
		}
		for u := range near[v].both(p.inner).less(met).rising {
			met.add(u)
			back[u] = v
			queue = append(queue, u)
		}
	}
	return nil // the inner nodes hang together, and so there is a way
}

// goBack answers the way from v to the node from which all were met.
func goBack(back []int, v, from int) []int {
	way := []int{v}
	for v != from {
		v = back[v]
		way = append(way, v)
	}
	return way
}
