package codec

import (
	"strconv"
	"strings"

	"arbor/api"
)

const mostDigits = 3

// line writes a graph that is in form.
func line(g api.Graph) string {
	var out strings.Builder
	out.WriteString(strconv.Itoa(g.N))
	out.WriteByte(':')
	for _, e := range g.Edges {
		out.WriteByte(' ')
		out.WriteString(strconv.Itoa(e[0]))
		out.WriteByte('-')
		out.WriteString(strconv.Itoa(e[1]))
	}
	out.WriteByte('\n')
	return out.String()
}

// reader goes through a text byte by byte, and gives up at the first with which it can't go on.
type reader struct {
	text string
	at   int
}

// graph reads all of the text; whether what it tells is a graph is left to graph.Check.
func (r *reader) graph() api.Graph {
	g := api.Graph{N: r.number()}
	r.must(':')
	for r.goesOnWith(' ') {
		u := r.number()
		r.must('-')
		v := r.number()
		g.Edges = append(g.Edges, [2]int{u, v})
	}
	r.must('\n')
	if r.at < len(r.text) {
		giveUp(api.ErrText, r.at)
	}
	return g
}

// number reads all digits that stand here, so that a number of a wrong form is told at its first byte.
func (r *reader) number() int {
	first := r.at
	for r.at < len(r.text) && isDigit(r.text[r.at]) {
		r.at++
	}
	digits := r.text[first:r.at]
	if digits == "" || len(digits) > mostDigits || digits[0] == '0' && len(digits) > 1 {
		giveUp(api.ErrText, first)
	}
	n := 0
	for i := range len(digits) {
		n = 10*n + int(digits[i]-'0')
	}
	return n
}

// goesOnWith goes past b, if it stands here.
func (r *reader) goesOnWith(b byte) bool {
	if r.at == len(r.text) || r.text[r.at] != b {
		return false
	}
	r.at++
	return true
}

func (r *reader) must(b byte) {
	if !r.goesOnWith(b) {
		giveUp(api.ErrText, r.at)
	}
}

func isDigit(b byte) bool { return '0' <= b && b <= '9' }
