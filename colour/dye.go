package colour

import "slices"

// dye is the colours that the edges have so far. There is one more than the greatest number of edges that a node has, so that each node has a free one: one that none of its edges has.
type dye struct {
	to [][]int // of each node and each colour the node to which its edge of this colour goes, or none
}

func newDye(nodes, colours int) *dye {
	d := &dye{to: make([][]int, nodes)}
	for v := range d.to {
		d.to[v] = slices.Repeat([]int{none}, colours)
	}
	return d
}

// colour answers the colour of the edge between two nodes, or none.
func (d *dye) colour(u, v int) int { return slices.Index(d.to[u], v) }

func (d *dye) isFree(v, colour int) bool { return d.to[v][colour] == none }

func (d *dye) free(v int) int { return slices.Index(d.to[v], none) }

func (d *dye) set(u, v, colour int) { d.to[u][colour], d.to[v][colour] = v, u }

func (d *dye) unset(u, v, colour int) { d.to[u][colour], d.to[v][colour] = none, none }

// add gives the edge between u and v a colour. Edges that have one may change theirs.
func (d *dye) add(u, v int) {
	fan := d.fan(u, v)
	colour := d.free(fan[len(fan)-1])
	// The fan goes no further, so an edge of this colour at u is one of its edges. After the swap u has none: either the colour is still free at the node ahead of that edge, or the way ended there, and what u's edge has got instead is free there, so that the whole fan still is one, and nothing has changed at its last node.
	d.swap(u, colour, d.free(u))
	end := slices.IndexFunc(fan, func(w int) bool { return d.isFree(w, colour) })
	d.shift(u, fan[:end+1], colour)
}

// fan answers nodes near u, the first one v, so that each one behind it has an edge with u of a colour that is free at the node ahead of it; until none can stand behind the last.
func (d *dye) fan(u, v int) []int {
	var fan []int
	inFan := make([]bool, len(d.to))
	for v != none {
		fan = append(fan, v)
		inFan[v] = true
		v = d.behind(u, v, inFan)
	}
	return fan
}

// behind answers a node that can stand behind v in the fan of u, or none.
func (d *dye) behind(u, v int, inFan []bool) int {
	for colour, w := range d.to[u] {
		if w != none && !inFan[w] && d.isFree(v, colour) {
			return w
		}
	}
	return none
}

// swap takes the way from v on which the edges have the one colour and the other in turn, and gives each of them the other one of the two. The other one is free at v, so the way is no ring.
func (d *dye) swap(v, one, other int) {
	way := []int{v}
	for colour, next := one, other; !d.isFree(v, colour); colour, next = next, colour {
		v = d.to[v][colour]
		way = append(way, v)
	}
	for _, w := range way {
		d.to[w][one], d.to[w][other] = d.to[w][other], d.to[w][one]
	}
}

// shift gives each edge of the fan of u the colour of the next one, and the last one this colour.
func (d *dye) shift(u int, fan []int, colour int) {
	for i, w := range fan[1:] {
		moved := d.colour(u, w)
		d.unset(u, w, moved)
		d.set(u, fan[i], moved)
	}
	d.set(u, fan[len(fan)-1], colour)
}
