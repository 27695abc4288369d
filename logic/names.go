package logic

import "unicode"

// name names a node or a set of nodes: which of both, its type tells.
type name interface {
	// choices answers how many nodes, or sets of nodes, there are for it to be, if there are so many nodes.
	choices(nodes int) int
}

type node string

type set string

func (node) choices(nodes int) int { return nodes }

func (set) choices(nodes int) int { return 1 << nodes }

// nameOf answers what a text names; nil, if it is no name.
func nameOf(text string) name {
	if text == "" || isWord(text) {
		return nil
	}
	isGreat := false
	for at, r := range text {
		switch {
		case at == 0 && !unicode.IsLetter(r), !isOfName(r):
			return nil
		case at == 0:
			isGreat = unicode.IsUpper(r)
		}
	}
	if isGreat {
		return set(text)
	}
	return node(text)
}

// isOfName tells whether a rune may stand in a name, behind its first letter.
func isOfName(r rune) bool { return unicode.IsLetter(r) || unicode.IsDigit(r) }

// isWord tells whether a text is one of the words that name nothing.
func isWord(text string) bool {
	switch text {
	case "all", "some", "not", "and", "or", "in", "true", "false":
		return true
	}
	return false
}

func isNode(text string) bool {
	_, ok := nameOf(text).(node)
	return ok
}

func isSet(text string) bool {
	_, ok := nameOf(text).(set)
	return ok
}

func isName(text string) bool { return nameOf(text) != nil }

func isEmpty(text string) bool { return text == "" }
