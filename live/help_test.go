package live_test

import (
	"fmt"
	"strings"
	"testing"

	"arbor/api"
	"arbor/live"
)

func fault(code, at int) api.Fault { return api.Fault{Code: code, At: at} }

// step is a call: the first word is the method, the others are names.
type step []string

// steps cuts a text into calls, and these into words.
func steps(text string) []step {
	var out []step
	for _, part := range strings.Split(text, ",") {
		out = append(out, strings.Fields(part))
	}
	return out
}

// take makes a call of a house.
func take(h *live.House, s step) api.Fault {
	switch s[0] {
	case "node":
		return h.Node(s[1])
	case "edge":
		return h.Edge(s[1], s[2])
	case "cut":
		return h.Cut(s[1], s[2])
	case "undo":
		return h.Undo()
	case "joined":
		_, f := h.Joined(s[1], s[2])
		return f
	}
	panic("no such call: " + s[0])
}

// takeAll makes calls of which none should tell a fault.
func takeAll(t *testing.T, h *live.House, text string) {
	t.Helper()
	for _, s := range steps(text) {
		if f := take(h, s); f != (api.Fault{}) {
			t.Fatalf("%v: %v, want no fault", s, f)
		}
	}
}

// houseOf has made the calls that the text tells.
func houseOf(t *testing.T, text string) *live.House {
	t.Helper()
	h := live.New()
	takeAll(t, h, text)
	return h
}

// wantFault makes a call that should tell a fault, and looks whether it changed anything.
func wantFault(t *testing.T, h *live.House, text string, want api.Fault) {
	t.Helper()
	was := tell(h)
	if f := take(h, steps(text)[0]); f != want {
		t.Errorf("%s: %v, want %v", text, f, want)
	}
	if is := tell(h); is != was {
		t.Errorf("%s, with a fault, made %s of %s", text, is, was)
	}
}

// wantTold looks at all that a house tells: its names, edges in form, and which nodes are joined.
func wantTold(t *testing.T, name string, h *live.House, want string) {
	t.Helper()
	if got := tell(h); got != want {
		t.Errorf("%s: %s, want %s", name, got, want)
	}
}

// tell tells all that can be asked of a house, without a change.
func tell(h *live.House) string {
	g, names := h.Graph()
	var joined []string
	for i, a := range names {
		for _, b := range names[:i] {
			one, f := h.Joined(a, b)
			other, back := h.Joined(b, a)
			if one != other || f != (api.Fault{}) || back != f {
				joined = append(joined, fmt.Sprint(a, b, one, f, other, back))
			}
			if one {
				joined = append(joined, b+a)
			}
		}
		if self, f := h.Joined(a, a); !self || f != (api.Fault{}) {
			joined = append(joined, fmt.Sprint(a, a, self, f))
		}
	}
	return fmt.Sprint(g.N, names, g.Edges, joined, h.Parts())
}

// nodes names so many nodes: n0, n1, ..
func nodes(t *testing.T, h *live.House, many int) {
	t.Helper()
	for i := range many {
		if f := h.Node(named(i)); f != (api.Fault{}) {
			t.Fatalf("node %d: %v", i, f)
		}
	}
}

func named(i int) string { return fmt.Sprint("n", i) }

func manyNames(many int) []string {
	var out []string
	for i := range many {
		out = append(out, named(i))
	}
	return out
}

// pairs has the first pairs of numbers, so many, with the lesser one first, in their order by the greater one.
func pairs(many int) [][2]int {
	var out [][2]int
	for v := 1; len(out) < many; v++ {
		for u := range v {
			out = append(out, [2]int{u, v})
		}
	}
	return out[:many]
}

// edges adds edges, every other one with the greater node first.
func edges(t *testing.T, h *live.House, list [][2]int) {
	t.Helper()
	for i, e := range list {
		if f := h.Edge(named(e[i%2]), named(e[1-i%2])); f != (api.Fault{}) {
			t.Fatalf("edge %d, %v: %v", i, e, f)
		}
	}
}

// greatest is a house with as many nodes and edges as may be.
func greatest(t *testing.T) *live.House {
	t.Helper()
	h := live.New()
	nodes(t, h, api.MaxNodes)
	edges(t, h, pairs(api.MaxEdges))
	return h
}

// drawFrom answers a function that draws numbers below some n, none of them chosen by hand; the same ones each time.
func drawFrom(seed int) func(n int) int {
	x := uint64(seed)*2654435761 + 12345
	return func(n int) int {
		x = x*6364136223846793005 + 1442695040888963407
		return int(x>>33) % n
	}
}
