package logic

import (
	"slices"
	"strings"

	"arbor/api"
)

const (
	mostNames = 5 // that are free, and bound within one another, together
	mostSets  = 2 // that are bound within one another
)

// freeNames answers the names that are free somewhere in a formula without fault, each once, in the order of texts.
func freeNames(f api.Formula) []string {
	var found []string
	var look func(f api.Formula, bound []string)
	look = func(f api.Formula, bound []string) {
		switch f.Kind {
		case api.FNear, api.FSame, api.FIn:
			for _, text := range []string{f.A, f.B} {
				if !slices.Contains(bound, text) {
					found = append(found, strings.Clone(text))
				}
			}
		case api.FAll, api.FSome:
			bound = append(slices.Clone(bound), f.A)
		}
		for _, kid := range f.Kids {
			look(kid, bound)
		}
	}
	look(f, nil)
	slices.Sort(found)
	return slices.Compact(found)
}

// checkFree tells the first one of the free names that is one of a set.
func checkFree(free []string) api.Fault {
	at := slices.IndexFunc(free, isSet)
	if at >= 0 {
		return api.Fault{Code: api.ErrName, At: at}
	}
	return api.Fault{}
}

// isTooDeep tells whether too many names are bound within one another for all that they can be to be tried, with so many that are free.
func isTooDeep(f api.Formula, free int) bool {
	names, sets := nested(f)
	return free+names > mostNames || sets > mostSets
}

// nested answers how many names at most, and how many names of sets at most, are bound within one another.
func nested(f api.Formula) (names, sets int) {
	for _, kid := range f.Kids {
		kidNames, kidSets := nested(kid)
		names, sets = max(names, kidNames), max(sets, kidSets)
	}
	if f.Kind == api.FAll || f.Kind == api.FSome {
		names++
		if isSet(f.A) {
			sets++
		}
	}
	return names, sets
}
