package logic

import (
	"unicode"

	"arbor/api"
)

// token is a piece of a text, and the byte at which it begins.
type token struct {
	text string
	at   int
}

// end is the text of the token that stands at the end of each text.
const end = ""

// tokens are those of a text that are left to be read.
type tokens struct{ left []token }

// next is the first token that is left; the end of the text is never gone past.
func (t *tokens) next() token { return t.left[0] }

// goesOnWith goes past the next token, if it is this one.
func (t *tokens) goesOnWith(text string) bool {
	if t.next().text != text {
		return false
	}
	t.left = t.left[1:]
	return true
}

func (t *tokens) must(text string) {
	if !t.goesOnWith(text) {
		t.refuse()
	}
}

// refuse gives up at the next token, since no text can go on with it.
func (t *tokens) refuse() { giveUp(api.ErrText, t.next().at) }

// cut answers the tokens of a text, and behind them its end.
func cut(s string) []token {
	var runes []rune
	var places []int
	for at, r := range s {
		runes, places = append(runes, r), append(places, at)
	}
	var out []token
	for i := 0; i < len(runes); {
		if runes[i] == ' ' || runes[i] == '\n' {
			i++
			continue
		}
		length := tokenLength(runes[i:])
		if length == 0 {
			giveUp(api.ErrText, places[i])
		}
		out = append(out, token{string(runes[i : i+length]), places[i]})
		i += length
	}
	return append(out, token{end, len(s)})
}

// tokenLength answers how many runes the token has that begins here; 0, if none does. A byte that is no UTF-8 comes as a rune that begins none.
func tokenLength(runes []rune) int {
	switch r := runes[0]; {
	case unicode.IsLetter(r):
		return runLength(runes)
	case r == '-' && len(runes) > 1 && runes[1] == '>':
		return 2
	case r == '~', r == '=', r == ':', r == '(', r == ')':
		return 1
	}
	return 0
}

// runLength answers how many letters and digits stand here together.
func runLength(runes []rune) int {
	for i, r := range runes {
		if !isOfName(r) {
			return i
		}
	}
	return len(runes)
}
