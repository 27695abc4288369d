package codec_test

import (
	"slices"
	"strconv"
	"strings"
	"testing"

	"arbor/api"
)

func fault(code, at int) api.Fault { return api.Fault{Code: code, At: at} }

// of makes a graph of n nodes and the edges l[0]-l[1], l[2]-l[3], ..
func of(n int, l ...int) api.Graph {
	g := api.Graph{N: n}
	for i := 0; i+1 < len(l); i += 2 {
		g.Edges = append(g.Edges, [2]int{l[i], l[i+1]})
	}
	return g
}

// some has n nodes and the first m pairs of them, in form.
func some(n, m int) api.Graph {
	g := api.Graph{N: n}
	for u := range n {
		for v := u + 1; v < n && len(g.Edges) < m; v++ {
			g.Edges = append(g.Edges, [2]int{u, v})
		}
	}
	return g
}

func full(n int) api.Graph { return some(n, n*(n-1)/2) }

// sparse has every step-th pair of n nodes, in form.
func sparse(n, step int) api.Graph {
	g := api.Graph{N: n}
	for i, e := range full(n).Edges {
		if i%step == 0 {
			g.Edges = append(g.Edges, e)
		}
	}
	return g
}

// scrambled has the edges of g from the last to the first, every other one the other way round.
func scrambled(g api.Graph) api.Graph {
	h := api.Graph{N: g.N}
	for i := len(g.Edges) - 1; i >= 0; i-- {
		e := g.Edges[i]
		if i%2 == 0 {
			e[0], e[1] = e[1], e[0]
		}
		h.Edges = append(h.Edges, e)
	}
	return h
}

// small has all graphs of at most most nodes, in form.
func small(most int) []api.Graph {
	var out []api.Graph
	for n := range most + 1 {
		all := full(n).Edges
		for set := range 1 << len(all) {
			g := api.Graph{N: n}
			for i, e := range all {
				if set>>i&1 == 1 {
					g.Edges = append(g.Edges, e)
				}
			}
			out = append(out, g)
		}
	}
	return out
}

// many has graphs of all sizes, in form, none of them at fault.
func many() []api.Graph {
	out := small(5)
	for n := range api.MaxNodes + 1 {
		out = append(out, of(n), sparse(n, 5), sparse(n, 7), some(n, api.MaxEdges))
		if n > 1 {
			out = append(out, of(n, 0, 1), of(n, n-2, n-1), of(n, 0, n-1))
		}
	}
	return out
}

// bits writes of each pair of g whether it has an edge, in the order of graph6, as 0 and 1.
func bits(g api.Graph) string {
	var out strings.Builder
	for j := range g.N {
		for i := range j {
			if slices.Contains(g.Edges, [2]int{i, j}) {
				out.WriteByte('1')
			} else {
				out.WriteByte('0')
			}
		}
	}
	return out.String()
}

// sixes writes 0 and 1 as the bytes of graph6, noughts behind.
func sixes(bits string) string {
	out := ""
	for len(bits)%6 != 0 {
		bits += "0"
	}
	for i := 0; i < len(bits); i += 6 {
		n, _ := strconv.ParseUint(bits[i:i+6], 2, 8)
		out += string(rune(n + 63))
	}
	return out
}

// wantPacked writes a graph that is in form, of any N and any number of edges, with nothing of the program.
func wantPacked(g api.Graph) string {
	if g.N < 63 {
		return string(rune(g.N+63)) + sixes(bits(g))
	}
	eighteen := strconv.FormatInt(int64(1<<18+g.N), 2)[1:]
	return "~" + sixes(eighteen) + sixes(bits(g))
}

func equal(g, h api.Graph) bool { return g.N == h.N && slices.Equal(g.Edges, h.Edges) }

func wantGraph(t *testing.T, what string, got api.Graph, f api.Fault, want api.Graph) {
	t.Helper()
	if f != (api.Fault{}) || !equal(got, want) {
		t.Errorf("%s: %v %v, want %v", what, got, f, want)
	}
}

// wantFault: a fault, and beside it nothing.
func wantFault(t *testing.T, what string, got api.Graph, f, want api.Fault) {
	t.Helper()
	if f != want {
		t.Errorf("%s: fault %v, want %v", what, f, want)
	}
	if got.N != 0 || len(got.Edges) != 0 {
		t.Errorf("%s: %v beside the fault %v, want nothing", what, got, f)
	}
}

func wantText(t *testing.T, what, got string, f api.Fault, want string) {
	t.Helper()
	if f != (api.Fault{}) || got != want {
		t.Errorf("%s: %q %v, want %q", what, got, f, want)
	}
}

// short tells the beginning of a text that may be long.
func short(s string) string {
	if len(s) > 40 {
		return strconv.Quote(s[:40]) + ".. of " + strconv.Itoa(len(s))
	}
	return strconv.Quote(s)
}
