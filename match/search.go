package match

// seek looks for a way from a root to another lone node, and answers that one, or none: then all even nodes are in the queue.
func (p *pairing) seek(root int) int {
	p.search = newSearch(len(p.mate), root)
	for at := 0; at < len(p.queue); at++ {
		v := p.queue[at]
		for _, u := range p.near[v] {
			switch {
			case p.base[u] == p.base[v]:
			case p.even[u]:
				p.fold(u, v)
			case p.from[u] == none:
				p.from[u] = v
				if p.mate[u] == none {
					return u
				}
				p.reach(p.mate[u])
			}
		}
	}
	return none
}

func newSearch(n, root int) search {
	s := search{even: make([]bool, n), from: make([]int, n), base: make([]int, n)}
	for v := range n {
		s.from[v] = none
		s.base[v] = v
	}
	s.reach(root)
	return s
}

// reach notes that an even way leads to v.
func (s *search) reach(v int) {
	if !s.even[v] {
		s.even[v] = true
		s.queue = append(s.queue, v)
	}
}

// fold makes a flower of the ring that the edge of two even nodes closes: round it, one way or the other, an even way leads to each of its nodes.
func (p *pairing) fold(u, v int) {
	base := p.meet(u, v)
	inside := map[int]struct{}{}
	p.lead(u, v, base, inside)
	p.lead(v, u, base, inside)
	for w := range p.base {
		if _, ok := inside[p.base[w]]; ok {
			p.base[w] = base
			p.reach(w)
		}
	}
}

// meet answers the first base that is on the ways of both even nodes back to the root.
func (p *pairing) meet(u, v int) int {
	passed := map[int]struct{}{}
	for {
		u = p.base[u]
		passed[u] = struct{}{}
		if p.mate[u] == none {
			break
		}
		u = p.from[p.mate[u]]
	}
	for {
		v = p.base[v]
		if _, ok := passed[v]; ok {
			return v
		}
		v = p.from[p.mate[v]]
	}
}

// lead goes back from v to the base, along an even way. It notes that odd ways come to the way's even nodes from the other end, by the edge from ahead to v; and the bases of all that is on the way, as inside.
func (p *pairing) lead(v, ahead, base int, inside map[int]struct{}) {
	for p.base[v] != base {
		mate := p.mate[v]
		inside[p.base[v]] = struct{}{}
		inside[p.base[mate]] = struct{}{}
		p.from[v] = ahead
		ahead, v = mate, p.from[mate]
	}
}
