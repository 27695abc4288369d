package names

import (
	"maps"
	"slices"
)

// end is an order of all nodes, to which some choices have led.
type end struct {
	chosen []int
	places []int // of each node its place in the order
}

// branch is what comes of choosing a node.
type branch struct {
	node  int
	cells cells
	shape string
}

// finds is what has been found so far.
type finds struct {
	near    []set
	ends    map[string]end // of each shape the first end that has it
	keepers [][]int        // permutations that keep the graph
}

// tryAll puts the nodes into orders: where they can't be told apart, it chooses each one in turn to be the first of its set, as McKay has shown. Of the branches of a choice those go on that have the least shape; of all ends one with the least shape is answered, so that a graph with other numbers has the same end, with these numbers. Beside it stand permutations that keep the graph, of which the group are all that do.
func tryAll(near []set) (places []int, keepers [][]int) {
	f := &finds{near: near, ends: map[string]end{}}
	var chosen []int
	// from answers how many of the choices ahead of it are to stand: what else could come of the later ones has come of others.
	var from func(c cells) int
	from = func(c cells) int {
		at := c.firstOpen()
		if at < 0 {
			return f.arrive(chosen, c)
		}
		depth := len(chosen)
		var tried set
		for _, b := range f.branches(chosen, c, at) {
			if f.orbit(chosen, b.node)&tried != 0 {
				continue
			}
			tried |= only(b.node)
			chosen = append(chosen, b.node)
			stand := from(b.cells)
			chosen = chosen[:depth]
			if stand < depth {
				return stand
			}
		}
		return depth
	}
	from(oneCell(len(near)).settled(near))
	least := slices.Sorted(maps.Keys(f.ends))[0]
	return f.ends[least].places, f.keepers
}

// branches answers what comes of choosing one of the nodes of a set, as far as it has the least shape; of nodes that are known to go to each other, one is asked for.
func (f *finds) branches(chosen []int, c cells, at int) []branch {
	var out []branch
	var asked set
	for _, v := range c[at].nodes() {
		if f.orbit(chosen, v)&asked != 0 {
			continue
		}
		asked |= only(v)
		finer := c.apart(at, v).settled(f.near)
		b := branch{v, finer, finer.shape(f.near)}
		if len(out) > 0 && b.shape < out[0].shape {
			out = nil
		}
		if len(out) == 0 || b.shape == out[0].shape {
			out = append(out, b)
		}
	}
	return out
}

// arrive keeps an end, and answers how many of the choices are to stand. If another end has the same shape, a permutation that keeps the graph takes the one to the other, and leaves the choices that both have together where they are: so of the first one in which they differ nothing more can come.
func (f *finds) arrive(chosen []int, c cells) int {
	shape, places := c.shape(f.near), c.places()
	other, ok := f.ends[shape]
	if !ok {
		f.ends[shape] = end{slices.Clone(chosen), places}
		return len(chosen)
	}
	f.keepers = append(f.keepers, across(places, other.places))
	together := 0
	for chosen[together] == other.chosen[together] {
		together++
	}
	return together
}

// orbit answers all to which v goes by the permutations found so far that leave the chosen nodes where they are.
func (f *finds) orbit(chosen []int, v int) set {
	var steady [][]int
	for _, p := range f.keepers {
		if !slices.ContainsFunc(chosen, func(u int) bool { return p[u] != u }) {
			steady = append(steady, p)
		}
	}
	reached := only(v)
	for todo := []int{v}; len(todo) > 0; todo = todo[1:] {
		for _, p := range steady {
			if to := p[todo[0]]; reached&only(to) == 0 {
				reached |= only(to)
				todo = append(todo, to)
			}
		}
	}
	return reached
}
