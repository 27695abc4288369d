package desk

import (
	"strconv"

	"arbor/api"
	"arbor/live"
)

const done = "ok"

// addNodes adds a node for each word, or none at all.
func addNodes(house *live.House, words []string) (string, api.Fault) {
	for at, name := range words {
		if f := house.Node(name); f.Code != api.OK {
			takeBack(house, at)
			return "", api.Fault{Code: f.Code, At: at}
		}
	}
	return done, api.Fault{}
}

// takeBack takes the last changes back, so many that there are.
func takeBack(house *live.House, many int) {
	for range many {
		house.Undo()
	}
}

func undo(house *live.House, words []string) (string, api.Fault) {
	return done, house.Undo()
}

// ofTwo makes a deed of a change that has the names of two nodes.
func ofTwo(change func(house *live.House, a, b string) api.Fault) deed {
	return func(house *live.House, words []string) (string, api.Fault) {
		return done, change(house, words[0], words[1])
	}
}

func joined(house *live.House, words []string) (string, api.Fault) {
	is, f := house.Joined(words[0], words[1])
	return yes(is), f
}

func countParts(house *live.House, words []string) (string, api.Fault) {
	return strconv.Itoa(house.Parts()), api.Fault{}
}
