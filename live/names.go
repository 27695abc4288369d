package live

import "arbor/api"

const longestName = 20

// isName tells whether a node may have this name. It goes through bytes, since a letter that takes more than one is none of those that may be in a name.
func isName(name string) bool {
	if len(name) == 0 || len(name) > longestName || !isLetter(name[0]) {
		return false
	}
	for at := range len(name) {
		if !isLetter(name[at]) && !isDigit(name[at]) {
			return false
		}
	}
	return true
}

func isLetter(c byte) bool { return 'a' <= c && c <= 'z' }

func isDigit(c byte) bool { return '0' <= c && c <= '9' }

// pair answers the numbers of the nodes with these names, the lesser one first.
func (h *House) pair(a, b string) ([2]int, api.Fault) {
	u, ok := h.numbers[a]
	if !ok {
		return [2]int{}, api.Fault{Code: api.ErrName}
	}
	v, ok := h.numbers[b]
	if !ok {
		return [2]int{}, api.Fault{Code: api.ErrName, At: 1}
	}
	return [2]int{min(u, v), max(u, v)}, api.Fault{}
}
