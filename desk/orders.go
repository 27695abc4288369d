package desk

import (
	"arbor/api"
	"arbor/codec"
	"arbor/live"
	"arbor/poly"
	"arbor/trees"
	"arbor/walks"
)

// order is what the first word of a line can be: how it is called, how many words it wants behind it, and what it does with them.
type order struct {
	room
	name   string
	answer deed
}

// deed does what an order says, with the words behind it.
type deed func(house *live.House, words []string) (string, api.Fault)

// room is how many words an order has place for.
type room struct{ least, most int }

func (r room) wants(words int) bool { return r.least <= words && words <= r.most }

// orders has all that there are.
var orders = makeOrders()

func makeOrders() []order {
	none, two, some := room{0, 0}, room{2, 2}, room{1, api.MaxText}
	return []order{
		{some, "node", addNodes},
		{two, "edge", ofTwo((*live.House).Edge)},
		{two, "cut", ofTwo((*live.House).Cut)},
		{none, "undo", undo},
		{two, "joined", joined},
		{none, "parts", countParts},
		{none, "bytes", ofGraph(codec.Pack)},
		{none, "trees", ofGraph(trees.Count)},
		{none, "girth", ofGraph(inDecimal(walks.Girth))},
		{none, "rings", ofGraph(inDecimal(poly.Rings))},
		{none, "colours", ofGraph(inDecimal(fewestColours))},
		{none, "width", ofGraph(inDecimal(leastWidth))},
		{none, "turns", ofGraph(countTurns)},
		{none, "plane", ofGraph(yesOrNo(isPlane))},
		{none, "chords", ofGraph(yesOrNo(isChordal))},
		{none, "sides", ofGraph(yesOrNo(hasSides))},
		{none, "clique", greatestClique},
		{some, "ask", ask},
	}
}

// find looks for an order by its name.
func find(name string) (order, bool) {
	for _, o := range orders {
		if o.name == name {
			return o, true
		}
	}
	return order{}, false
}
