package desk_test

import (
	"fmt"
	"slices"
	"strings"
	"testing"

	"arbor/api"
	"arbor/desk"
)

// A second account of the chapter, for small graphs: it keeps, of each change that stands, all that there was behind it, by names; and it tries all that there is.

type state struct {
	names []string
	edges [][2]string
}

func (s state) near(u, v int) bool {
	a, b := s.names[u], s.names[v]
	return slices.Contains(s.edges, [2]string{a, b}) || slices.Contains(s.edges, [2]string{b, a})
}

func (s state) many() int { return len(s.names) }

// orders are all nodes, in any order.
func (s state) orders() [][]int {
	l := [][]int{nil}
	for range s.many() {
		var longer [][]int
		for _, order := range l {
			for v := range s.many() {
				if !slices.Contains(order, v) {
					longer = append(longer, append(slices.Clone(order), v))
				}
			}
		}
		l = longer
	}
	return l
}

// parts counts the sets of nodes that no edge leaves: each component can be in one, or not.
func (s state) parts() int {
	sets := 0
	for set := range 1 << s.many() {
		if !s.leaves(set) {
			sets++
		}
	}
	parts := 0
	for 1<<parts < sets {
		parts++
	}
	return parts
}

func (s state) leaves(set int) bool {
	for u := range s.many() {
		for v := range s.many() {
			if set>>u&1 == 1 && set>>v&1 == 0 && s.near(u, v) {
				return true
			}
		}
	}
	return false
}

// joined: no set that no edge leaves has just one of both.
func (s state) joined(u, v int) bool {
	for set := range 1 << s.many() {
		if set>>u&1 != set>>v&1 && !s.leaves(set) {
			return false
		}
	}
	return true
}

func (s state) bytes() string {
	bits := ""
	for v := range s.many() {
		for u := range v {
			bits += map[bool]string{false: "0", true: "1"}[s.near(u, v)]
		}
	}
	for len(bits)%6 > 0 {
		bits += "0"
	}
	out := []byte{byte(63 + s.many())}
	for i := 0; i < len(bits); i += 6 {
		six := 0
		fmt.Sscanf(bits[i:i+6], "%b", &six)
		out = append(out, byte(63+six))
	}
	return string(out)
}

func (s state) trees() int {
	if s.many() == 0 {
		return 1
	}
	trees := 0
	for set := range 1 << len(s.edges) {
		some := state{names: s.names}
		for i, e := range s.edges {
			if set>>i&1 == 1 {
				some.edges = append(some.edges, e)
			}
		}
		if len(some.edges) == s.many()-1 && some.parts() == 1 {
			trees++
		}
	}
	return trees
}

// isRing looks at the first nodes of an order, so many.
func (s state) isRing(order []int, many int) bool {
	for i := range many {
		if !s.near(order[i], order[(i+1)%many]) {
			return false
		}
	}
	return true
}

func (s state) girth() int {
	for many := 3; many <= s.many(); many++ {
		for _, order := range s.orders() {
			if s.isRing(order, many) {
				return many
			}
		}
	}
	return 0
}

// rings: each one is met from each of its nodes on, either way round.
func (s state) rings() int {
	met := 0
	for _, order := range s.orders() {
		if s.many() >= 3 && s.isRing(order, s.many()) {
			met++
		}
	}
	return met / max(1, 2*s.many())
}

// canColour tries all colours of the nodes.
func (s state) canColour(k int) bool {
	ways := 1
	for range s.many() {
		ways *= k
	}
	for way := range ways {
		var colours []int
		for rest := way; len(colours) < s.many(); rest /= k {
			colours = append(colours, rest%k)
		}
		if !s.any(func(u, v int) bool { return s.near(u, v) && colours[u] == colours[v] }) {
			return true
		}
	}
	return false
}

func (s state) any(is func(u, v int) bool) bool {
	for u := range s.many() {
		for v := range u {
			if is(u, v) {
				return true
			}
		}
	}
	return false
}

func (s state) colours() int {
	k := 0
	for !s.canColour(k) {
		k++
	}
	return k
}

// width: the nodes are taken away one by one, and those that are left near one are joined with one another; the most that there are near one, in the best order.
func (s state) width() int {
	best := s.many() - 1
	for _, order := range s.orders() {
		near := map[[2]int]bool{}
		for u := range s.many() {
			for v := range s.many() {
				near[[2]int{u, v}] = s.near(u, v)
			}
		}
		most := 0
		for i, v := range order {
			var left []int
			for _, u := range order[i+1:] {
				if near[[2]int{u, v}] {
					left = append(left, u)
				}
			}
			most = max(most, len(left))
			for _, u := range left {
				for _, w := range left {
					near[[2]int{u, w}] = u != w
				}
			}
		}
		best = min(best, most)
	}
	return best
}

func (s state) turns() int {
	turns := 0
	for _, to := range s.orders() {
		if !s.any(func(u, v int) bool { return s.near(u, v) != s.near(to[u], to[v]) }) {
			turns++
		}
	}
	return turns
}

// isChordal: in some order the nodes behind each one and near it are near one another.
func (s state) isChordal() bool {
	return slices.ContainsFunc(s.orders(), func(order []int) bool {
		for i, v := range order {
			for j, u := range order[i+1:] {
				for _, w := range order[i+j+2:] {
					if s.near(v, u) && s.near(v, w) && !s.near(u, w) {
						return false
					}
				}
			}
		}
		return true
	})
}

// clique: of the greatest sets the one of which the first nodes are the least.
func (s state) clique() []int {
	best := []int{}
	for set := range 1 << s.many() {
		var nodes []int
		for v := range s.many() {
			if set>>v&1 == 1 {
				nodes = append(nodes, v)
			}
		}
		far := s.any(func(u, v int) bool { return set>>u&1 == 1 && set>>v&1 == 1 && !s.near(u, v) })
		if !far && (len(nodes) > len(best) || len(nodes) == len(best) && slices.Compare(nodes, best) < 0) {
			best = nodes
		}
	}
	return best
}

// write tells nodes by their names.
func (s state) write(nodes []int) string {
	called := []string{}
	for _, v := range nodes {
		called = append(called, s.names[v])
	}
	return fmt.Sprint(called)
}

// pairs writes all pairs of nodes of which something holds.
func (s state) pairs(holds func(u, v int) bool) string {
	out := ""
	for u := range s.many() {
		for v := range s.many() {
			if holds(u, v) {
				out += s.write([]int{u, v})
			}
		}
	}
	return out
}

func yes(holds bool) string {
	if holds {
		return "yes"
	}
	return "no"
}

// question answers a line that changes nothing, if it is one of these.
func (s state) question(line string) (string, bool) {
	switch line {
	case "parts":
		return fmt.Sprint(s.parts()), true
	case "bytes":
		return s.bytes(), true
	case "trees":
		return fmt.Sprint(s.trees()), true
	case "girth":
		return fmt.Sprint(s.girth()), true
	case "rings":
		return fmt.Sprint(s.rings()), true
	case "colours":
		return fmt.Sprint(s.colours()), true
	case "width":
		return fmt.Sprint(s.width()), true
	case "turns":
		return fmt.Sprint(s.turns()), true
	case "plane":
		return yes(len(s.edges) < 10), true // of at most five nodes
	case "chords":
		return yes(s.isChordal()), true
	case "sides":
		return yes(s.colours() <= 2), true
	case "clique":
		return s.write(s.clique()), true
	}
	return s.asked(line)
}

// asked answers some formulas.
func (s state) asked(line string) (string, bool) {
	switch line {
	case "ask true", "ask  true", "ask all x: x = x":
		return "yes", true
	case "ask false":
		return "no", true
	case "ask x ~ y", "ask p~q ", "ask some S: x ~ y":
		return s.pairs(s.near), true
	case "ask not x ~ y and not x = y":
		return s.pairs(func(u, v int) bool { return u != v && !s.near(u, v) }), true
	case "ask some z: x ~ z and z ~ y":
		return s.pairs(func(u, v int) bool {
			return slices.ContainsFunc(s.all(), func(w int) bool { return s.near(u, w) && s.near(w, v) })
		}), true
	case "ask x ~ x":
		return "", true
	case "ask some x: x = x":
		return yes(s.many() > 0), true
	case "ask some S: all x y: x ~ y -> (x in S -> not y in S) and (not x in S -> y in S)":
		return yes(s.colours() <= 2), true
	case "ask x in S":
		return told(api.ErrName, 0), true
	case "ask a in":
		return told(api.ErrText, 4), true
	case "ask ":
		return told(api.ErrText, 0), true
	}
	return "", false
}

func (s state) all() []int {
	var l []int
	for v := range s.many() {
		l = append(l, v)
	}
	return l
}

type account struct{ states []state }

func (c *account) now() state { return c.states[len(c.states)-1] }

// obey answers a line.
func (c *account) obey(line string) string {
	if answer, ok := c.now().question(line); ok {
		return answer
	}
	words := strings.Split(line, " ")
	order, words := words[0], words[1:]
	switch {
	case order == "node" && len(words) > 0:
		return c.node(words)
	case order == "undo" && len(words) == 0:
		return c.undo()
	case len(words) == 2 && (order == "edge" || order == "cut" || order == "joined"):
		return c.two(order, words[0], words[1])
	case slices.Contains(append(wantsNone(), "node", "edge", "cut", "joined", "ask"), order):
		return told(api.ErrSize, 0)
	}
	return told(api.ErrKind, 0)
}

func (c *account) node(words []string) string {
	add := c.states
	for at, name := range words {
		now := add[len(add)-1]
		if !strings.Contains(" a b c d e ", " "+name+" ") { // no others that are names are in the texts
			return told(api.ErrName, at)
		}
		if slices.Contains(now.names, name) {
			return told(api.ErrTwice, at)
		}
		add = append(slices.Clone(add), state{append(slices.Clone(now.names), name), now.edges})
	}
	c.states = add
	return "ok"
}

func (c *account) undo() string {
	if len(c.states) == 1 {
		return told(api.ErrState, 0)
	}
	c.states = c.states[:len(c.states)-1]
	return "ok"
}

func (c *account) two(order, a, b string) string {
	now := c.now()
	u, v := slices.Index(now.names, a), slices.Index(now.names, b)
	if u < 0 {
		return told(api.ErrName, 0)
	}
	if v < 0 {
		return told(api.ErrName, 1)
	}
	is := func(e [2]string) bool { return e == [2]string{a, b} || e == [2]string{b, a} }
	has := slices.ContainsFunc(now.edges, is)
	switch {
	case order == "joined":
		return yes(now.joined(u, v))
	case order == "edge" && u == v:
		return told(api.ErrLoop, 0)
	case order == "edge" && has:
		return told(api.ErrTwice, 0)
	case order == "edge":
		now.edges = append(slices.Clone(now.edges), [2]string{a, b})
	case !has:
		return told(api.ErrNone, 0)
	default:
		now.edges = slices.DeleteFunc(slices.Clone(now.edges), is)
	}
	c.states = append(c.states, now)
	return "ok"
}

// wantLines holds lines against the second account.
func wantLines(t *testing.T, lines []string) {
	t.Helper()
	answer, f := desk.Run(text(lines))
	c := &account{states: make([]state, 1)}
	var want strings.Builder
	for _, line := range lines {
		want.WriteString(c.obey(line) + "\n")
	}
	if answer != want.String() || f != (api.Fault{}) {
		got := strings.Split(answer, "\n")
		for i, w := range strings.Split(want.String(), "\n") {
			if i >= len(got) || i >= len(lines) || got[i] != w {
				t.Fatalf("%q: line %d is answered %q, want %q; fault %v", lines[:min(i+1, len(lines))], i, got[min(i, len(got)-1)], w, f)
			}
		}
	}
}

// questions has all lines that change nothing and tell no fault of their own words.
func questions() []string {
	return append(wantsNone()[1:], "ask true", "ask  true", "ask all x: x = x", "ask false", "ask x ~ y", "ask p~q ", "ask some S: x ~ y", "ask not x ~ y and not x = y", "ask some z: x ~ z and z ~ y", "ask x ~ x", "ask some x: x = x", "ask some S: all x y: x ~ y -> (x in S -> not y in S) and (not x in S -> y in S)", "ask x in S", "ask a in", "ask ")
}

// All short rows of lines, with a question behind them.
func TestAllShortTexts(t *testing.T) {
	lines := []string{"node a", "node b c", "node c a", "node  a", "edge a b", "edge b a", "edge c a", "edge a a", "cut a b", "cut a c", "undo", "what", "node", "undo "}
	asks := questions()
	many := len(lines) * len(lines) * len(lines) * len(lines)
	for number := range many {
		var row []string
		for rest := number; len(row) < 4; rest /= len(lines) {
			row = append(row, lines[rest%len(lines)])
		}
		wantLines(t, append(row, "ask x ~ y", "parts", asks[number%len(asks)]))
	}
}

// All graphs of up to five nodes, asked all questions.
func TestAllSmallGraphs(t *testing.T) {
	for n := range 6 {
		pairs := full(n).Edges
		for set := range 1 << len(pairs) {
			g := none(n)
			for i, e := range pairs {
				if set>>i&1 == 1 {
					g.Edges = append(g.Edges, e)
				}
			}
			wantLines(t, append(written(g), questions()...))
		}
	}
}

// drawLine draws a line; mostly one that changes something.
func drawLine(draw func(n int) int) string {
	names := []string{"a", "b", "c", "d", "e"}
	if draw(12) == 0 {
		names = []string{"a", "b", "c", "d", "e", "", "A", "ä", "a b"}
	}
	a, b := names[draw(len(names))], names[draw(len(names))]
	switch x := draw(100); {
	case x < 15:
		return "node " + a
	case x < 20:
		return "node " + a + " " + b
	case x < 50:
		return "edge " + a + " " + b
	case x < 60:
		return "cut " + a + " " + b
	case x < 70:
		return "undo"
	case x < 77:
		return "joined " + a + " " + b
	case x < 80:
		odd := []string{"", " ", "node", "node ", "edge", "edge a", "cut a b c", "joined", "ask", "undo x", "parts ", "Parts", "nodes a", "clique clique", "\xff", "f"}
		return odd[draw(len(odd))]
	}
	return questions()[draw(len(questions()))]
}

func TestMixedTexts(t *testing.T) {
	for seed := range 300 {
		draw := drawFrom(seed)
		var lines []string
		for range 60 {
			lines = append(lines, drawLine(draw))
		}
		wantLines(t, lines)
	}
}
