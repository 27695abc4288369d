package live_test

import (
	"fmt"
	"regexp"
	"slices"
	"testing"

	"arbor/api"
	"arbor/live"
)

// A second account of the chapter: it keeps, of each change that stands, all that there was behind it, by names.

type state struct {
	names []string
	edges [][2]string
}

// has looks for an edge, either way round.
func (s state) has(a, b string) bool {
	return slices.Contains(s.edges, [2]string{a, b}) || slices.Contains(s.edges, [2]string{b, a})
}

// from has the names of all nodes to which a way leads from one.
func (s state) from(a string) []string {
	found := []string{a}
	for i := 0; i < len(found); i++ {
		for _, e := range s.edges {
			for at := range e {
				if e[at] == found[i] && !slices.Contains(found, e[1-at]) {
					found = append(found, e[1-at])
				}
			}
		}
	}
	return found
}

// parts counts the nodes to which no way leads from one that came ahead of them.
func (s state) parts() int {
	many := 0
	for i, a := range s.names {
		if !slices.ContainsFunc(s.from(a), func(b string) bool { return slices.Index(s.names, b) < i }) {
			many++
		}
	}
	return many
}

func (s state) tell() string {
	edges, joined := [][2]int{}, []string{}
	for i, a := range s.names {
		for j := i + 1; j < len(s.names); j++ {
			if s.has(a, s.names[j]) {
				edges = append(edges, [2]int{i, j})
			}
		}
		reached := s.from(a)
		for _, b := range s.names[:i] {
			if slices.Contains(reached, b) {
				joined = append(joined, b+a)
			}
		}
	}
	return fmt.Sprint(len(s.names), s.names, edges, joined, s.parts())
}

type account struct{ states []state }

func newAccount() *account { return &account{states: make([]state, 1)} }

func (c *account) now() state { return c.states[len(c.states)-1] }

func (c *account) become(names []string, edges [][2]string) api.Fault {
	c.states = append(c.states, state{names, edges})
	return api.Fault{}
}

var isName = regexp.MustCompile(`\A[a-z][a-z0-9]{0,19}\z`)

func (c *account) node(name string) api.Fault {
	now := c.now()
	if !isName.MatchString(name) {
		return fault(api.ErrName, 0)
	}
	if slices.Contains(now.names, name) {
		return fault(api.ErrTwice, 0)
	}
	if len(now.names) == api.MaxNodes {
		return fault(api.ErrMany, 0)
	}
	return c.become(append(slices.Clone(now.names), name), now.edges)
}

func (c *account) unknown(names ...string) (api.Fault, bool) {
	for at, name := range names {
		if !slices.Contains(c.now().names, name) {
			return fault(api.ErrName, at), true
		}
	}
	return api.Fault{}, false
}

func (c *account) edge(a, b string) api.Fault {
	now := c.now()
	if f, bad := c.unknown(a, b); bad {
		return f
	}
	if a == b {
		return fault(api.ErrLoop, 0)
	}
	if now.has(a, b) {
		return fault(api.ErrTwice, 0)
	}
	if len(now.edges) == api.MaxEdges {
		return fault(api.ErrMany, 0)
	}
	return c.become(now.names, append(slices.Clone(now.edges), [2]string{a, b}))
}

func (c *account) cut(a, b string) api.Fault {
	now := c.now()
	if f, bad := c.unknown(a, b); bad {
		return f
	}
	if !now.has(a, b) {
		return fault(api.ErrNone, 0)
	}
	return c.become(now.names, slices.DeleteFunc(slices.Clone(now.edges), func(e [2]string) bool {
		return e == [2]string{a, b} || e == [2]string{b, a}
	}))
}

func (c *account) undo() api.Fault {
	if len(c.states) == 1 {
		return fault(api.ErrState, 0)
	}
	c.states = c.states[:len(c.states)-1]
	return api.Fault{}
}

func (c *account) take(s step) api.Fault {
	switch s[0] {
	case "node":
		return c.node(s[1])
	case "edge":
		return c.edge(s[1], s[2])
	case "cut":
		return c.cut(s[1], s[2])
	case "undo":
		return c.undo()
	}
	f, _ := c.unknown(s[1:]...)
	return f
}

// All short rows of calls, with faults among them.
func TestAllShortRows(t *testing.T) {
	calls := steps("node a, node b, node c, node a1_, edge a b, edge c b, edge b a, edge a a, edge b d, cut b a, cut b c, undo")
	for length := 1; length <= 5; length++ {
		many := 1
		for range length {
			many *= len(calls)
		}
		for number := range many {
			h, c := live.New(), newAccount()
			for rest, left := number, length; left > 0; rest, left = rest/len(calls), left-1 {
				s := calls[rest%len(calls)]
				if got, want := take(h, s), c.take(s); got != want {
					t.Fatalf("row %d of %d, %v: %v, want %v", number, length, s, got, want)
				}
			}
			if got, want := tell(h), c.now().tell(); got != want {
				t.Fatalf("row %d of %d: %s, want %s", number, length, got, want)
			}
		}
	}
}

// Short rows behind some nodes and edges, so that more of them find something to change.
func TestAllShortRowsFromAPath(t *testing.T) {
	calls := steps("edge a b, edge b c, edge a c, cut b a, cut c b, cut c a, joined a c, node d, edge d a, undo")
	for number := range 100000 {
		h, c := live.New(), newAccount()
		row := steps("node a, node b, node c, edge b a, edge b c")
		for rest := number; len(row) < 10; rest /= 10 {
			row = append(row, calls[rest%10])
		}
		for _, s := range row {
			if got, want := take(h, s), c.take(s); got != want {
				t.Fatalf("%v, at %v: %v, want %v", row, s, got, want)
			}
		}
		if got, want := tell(h), c.now().tell(); got != want {
			t.Fatalf("%v: %s, want %s", row, got, want)
		}
	}
}

// drawStep draws a call, mostly of names that nodes may have; of a hundred calls so many take back.
func drawStep(draw func(n int) int, names []string, undos int) step {
	a, b := names[draw(len(names))], names[draw(len(names))]
	switch x := draw(100); {
	case x < undos:
		return step{"undo"}
	case x < undos+(100-undos)/5:
		return step{"node", a}
	case x < undos+(100-undos)/5*4:
		return step{"edge", a, b}
	}
	return step{"cut", a, b}
}

func wantRow(t *testing.T, seed, length, undos, asks int, names []string) {
	t.Helper()
	draw := drawFrom(seed)
	h, c := live.New(), newAccount()
	for at := range length {
		s := drawStep(draw, names, undos)
		if got, want := take(h, s), c.take(s); got != want {
			t.Fatalf("row %d, call %d, %v: %v, want %v", seed, at, s, got, want)
		}
		if draw(asks) > 0 {
			continue
		}
		if got, want := tell(h), c.now().tell(); got != want {
			t.Fatalf("row %d behind call %d: %s, want %s", seed, at, got, want)
		}
	}
	for c.undo() == (api.Fault{}) {
		if f := h.Undo(); f != (api.Fault{}) {
			t.Fatalf("row %d, taken back: %v", seed, f)
		}
		if got, want := h.Parts(), c.now().parts(); got != want {
			t.Fatalf("row %d, taken back: %d parts, want %d", seed, got, want)
		}
	}
	wantTold(t, "all taken back", h, state{}.tell())
	wantFault(t, h, "undo", fault(api.ErrState, 0))
}

// Mixed rows, asked behind each change, or behind many.
func TestMixedRows(t *testing.T) {
	names := []string{"a", "b", "c", "d", "e", "f", "a0", "b1", "zzzzzzzzzzzzzzzzzzzz", "A", "", "é"}
	for seed := range 300 {
		for _, undos := range []int{0, 5, 30, 60} {
			wantRow(t, seed, 150, undos, 1+seed%7, names)
		}
	}
}

// Mixed rows with so many names that the limits are met.
func TestMixedRowsAtTheLimits(t *testing.T) {
	names := manyNames(api.MaxNodes + 20)
	for seed := range 3 {
		draw := drawFrom(seed + 900)
		h, c := live.New(), newAccount()
		met := map[api.Fault]int{}
		for at := range 6000 {
			s := drawStep(draw, names, 1)
			if s[0] == "cut" && draw(10) > 0 {
				s[0] = "edge"
			}
			got, want := take(h, s), c.take(s)
			if got != want {
				t.Fatalf("row %d, call %d, %v: %v, want %v", seed, at, s, got, want)
			}
			met[got]++
		}
		wantTold(t, "a great house", h, c.now().tell())
		if met[fault(api.ErrMany, 0)] == 0 || len(c.now().names) < 90 || len(c.now().edges) < 900 {
			t.Errorf("row %d did not come to the limits: %v", seed, met)
		}
	}
}
