package width

import "arbor/api"

// load is nodes of which no two have an edge, and what they weigh.
type load struct {
	total int
	nodes set
}

// beats tells whether a load is to be taken rather than another one.
func (l load) beats(other load) bool {
	return l.total > other.total || l.total == other.total && l.nodes.isAhead(other.nodes)
}

// loads has, for each choice of nodes of a bag of which no two have an edge, the heaviest load that goes with it, of the nodes that stand below this bag alone.
type loads map[set]load

// scale has what is weighed: the bags, those that hang at each one, and the root.
type scale struct {
	near    []set
	weights []int
	bags    []set
	kids    [][]int
	root    int
}

func newScale(g api.Graph, weights []int, bags []set, up []int) scale {
	s := scale{nearBy(g), weights, bags, make([][]int, len(bags)), none}
	for at, above := range up {
		if above == none {
			s.root = at
		} else {
			s.kids[above] = append(s.kids[above], at)
		}
	}
	return s
}

// best answers the heaviest load of all: above the root nothing is left to be chosen.
func (s scale) best() load {
	if s.root == none {
		return load{}
	}
	return s.upTo(s.root, set{})[set{}]
}

// upTo answers the loads of the bags from one down, for each choice of those nodes that the bag above it has, too.
func (s scale) upTo(at int, above set) loads {
	var below []loads
	for _, kid := range s.kids[at] {
		below = append(below, s.upTo(kid, s.bags[at]))
	}
	here := s.choices(s.bags[at])
	for i, kid := range s.kids[at] {
		here = here.and(below[i], s.bags[kid])
	}
	return s.settle(here, above)
}

// choices answers all choices of nodes of a bag of which no two have an edge, with nothing below them as yet.
func (s scale) choices(bag set) loads {
	found := loads{{}: {}}
	for _, v := range bag.rising() {
		more := make(loads, 2*len(found))
		for chosen := range found {
			more[chosen] = load{}
			if chosen.both(s.near[v]).isEmpty() {
				more[chosen.with(v)] = load{}
			}
		}
		found = more
	}
	return found
}

// and adds to the load of each choice what goes with it below, where the choice is the same for the nodes of the bag there.
func (l loads) and(below loads, bag set) loads {
	sum := make(loads, len(l))
	for chosen, here := range l {
		there := below[chosen.both(bag)]
		sum[chosen] = load{here.total + there.total, here.nodes.either(there.nodes)}
	}
	return sum
}

// settle puts the chosen nodes that the bag above has not onto the load: no other bag asks for them any more, so that each node is weighed once. Of choices that are the same above, the best one is left.
func (s scale) settle(l loads, above set) loads {
	left := loads{}
	for chosen, below := range l {
		done := chosen.less(above)
		settled := load{below.total + s.weigh(done), below.nodes.either(done)}
		kept := chosen.both(above)
		if best, ok := left[kept]; !ok || settled.beats(best) {
			left[kept] = settled
		}
	}
	return left
}

func (s scale) weigh(nodes set) int {
	total := 0
	for _, v := range nodes.rising() {
		total += s.weights[v]
	}
	return total
}
