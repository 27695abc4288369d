package desk

import (
	"strconv"

	"arbor/api"
	"arbor/chords"
	"arbor/colour"
	"arbor/live"
	"arbor/names"
	"arbor/parts"
	"arbor/plane"
	"arbor/width"
)

// ofGraph makes a deed of a question about the graph alone, whatever its nodes are called.
func ofGraph(question func(g api.Graph) (string, api.Fault)) deed {
	return func(house *live.House, words []string) (string, api.Fault) {
		g, _ := house.Graph()
		return question(g)
	}
}

// inDecimal makes one question of another one, which is answered by a number.
func inDecimal(question func(g api.Graph) (int, api.Fault)) func(g api.Graph) (string, api.Fault) {
	return func(g api.Graph) (string, api.Fault) {
		number, f := question(g)
		return strconv.Itoa(number), f
	}
}

// yesOrNo makes one question of another one, which is answered by whether something holds.
func yesOrNo(question func(g api.Graph) (bool, api.Fault)) func(g api.Graph) (string, api.Fault) {
	return func(g api.Graph) (string, api.Fault) {
		holds, f := question(g)
		return yes(holds), f
	}
}

func yes(holds bool) string {
	if holds {
		return "yes"
	}
	return "no"
}

func fewestColours(g api.Graph) (int, api.Fault) {
	k, _, f := colour.Number(g)
	return k, f
}

func leastWidth(g api.Graph) (int, api.Fault) {
	least, _, _, f := width.Least(g)
	return least, f
}

func countTurns(g api.Graph) (string, api.Fault) {
	_, many, f := names.Turns(g)
	return many, f
}

// isPlane asks for what shows that there is no plane order: of no nodes the order itself is empty, too.
func isPlane(g api.Graph) (bool, api.Fault) {
	_, bad, f := plane.Embed(g)
	return len(bad) == 0, f
}

func isChordal(g api.Graph) (bool, api.Fault) {
	_, hole, f := chords.Order(g)
	return len(hole) == 0, f
}

func hasSides(g api.Graph) (bool, api.Fault) {
	_, odd, f := parts.Sides(g)
	return len(odd) == 0, f
}
