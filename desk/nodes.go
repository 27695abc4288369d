package desk

import (
	"strings"

	"arbor/api"
	"arbor/colour"
	"arbor/live"
	"arbor/logic"
)

// greatestClique tells the names of its nodes.
func greatestClique(house *live.House, words []string) (string, api.Fault) {
	g, called := house.Graph()
	nodes, f := colour.Clique(g)
	return byName(called, nodes), f
}

// ask tells whether a formula holds or, if it has free names, of which nodes it does.
func ask(house *live.House, words []string) (string, api.Fault) {
	says, f := logic.Read(strings.Join(words, " "))
	if f.Code != api.OK {
		return "", f
	}
	g, called := house.Graph()
	ways, f := logic.Ask(g, says)
	if f.Code != api.OK {
		return "", f
	}
	free, f := logic.Free(says)
	if len(free) == 0 {
		return yes(len(ways) > 0), f // the one way that there may be is empty
	}
	return byName(called, ways...), f
}

// byName writes lists of nodes, one behind the other, by what the nodes are called.
func byName(called []string, lists ...[]int) string {
	var written strings.Builder
	for _, nodes := range lists {
		written.WriteByte('[')
		for i, v := range nodes {
			if i > 0 {
				written.WriteByte(' ')
			}
			written.WriteString(called[v])
		}
		written.WriteByte(']')
	}
	return written.String()
}
