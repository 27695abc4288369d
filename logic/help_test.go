package logic_test

import (
	"fmt"
	"slices"
	"strings"
	"testing"

	"arbor/api"
	"arbor/logic"
)

func fault(code, at int) api.Fault { return api.Fault{Code: code, At: at} }

// part makes a formula of any form.
func part(kind int, a, b string, kids ...api.Formula) api.Formula {
	return api.Formula{Kind: kind, A: a, B: b, Kids: kids}
}

func yes() api.Formula { return part(api.FTrue, "", "") }

func no() api.Formula { return part(api.FFalse, "", "") }

func near(a, b string) api.Formula { return part(api.FNear, a, b) }

func is(a, b string) api.Formula { return part(api.FSame, a, b) }

func in(a, b string) api.Formula { return part(api.FIn, a, b) }

func not(f api.Formula) api.Formula { return part(api.FNot, "", "", f) }

func and(f, g api.Formula) api.Formula { return part(api.FAnd, "", "", f, g) }

func or(f, g api.Formula) api.Formula { return part(api.FOr, "", "", f, g) }

func then(f, g api.Formula) api.Formula { return part(api.FThen, "", "", f, g) }

func all(a string, f api.Formula) api.Formula { return part(api.FAll, a, "", f) }

func some(a string, f api.Formula) api.Formula { return part(api.FSome, a, "", f) }

// times puts one thing within another so many times.
func times(many int, f api.Formula, about func(f api.Formula) api.Formula) api.Formula {
	for range many {
		f = about(f)
	}
	return f
}

// row has the parts one within another, to the left or to the right.
func row(join func(f, g api.Formula) api.Formula, left bool, l ...api.Formula) api.Formula {
	f := l[0]
	for _, next := range l[1:] {
		if left {
			f = join(f, next)
		} else {
			f = join(next, f)
		}
	}
	return f
}

// same tells whether two formulas are the same; a list without elements may be nil or empty.
func same(f, g api.Formula) bool {
	return f.Kind == g.Kind && f.A == g.A && f.B == g.B && slices.EqualFunc(f.Kids, g.Kids, same)
}

// isZero: beside a fault there is no formula.
func isZero(f api.Formula) bool { return same(f, api.Formula{}) }

// copied is a formula whose lists are its own.
func copied(f api.Formula) api.Formula {
	f.Kids = slices.Clone(f.Kids)
	for i, kid := range f.Kids {
		f.Kids[i] = copied(kid)
	}
	return f
}

// read reads a text that is without fault.
func read(t *testing.T, s string) api.Formula {
	t.Helper()
	f, fault := logic.Read(s)
	if fault != (api.Fault{}) {
		t.Fatalf("Read of %q: %v", s, fault)
	}
	return f
}

// short tells the beginning of what may be long.
func short(what any) string {
	s := fmt.Sprintf("%+v", what)
	if len(s) > 300 {
		return fmt.Sprintf("%q.. of %d bytes", s[:300], len(s))
	}
	return s
}

// of makes a graph of n nodes and the edges l[0]-l[1], l[2]-l[3], ..
func of(n int, l ...int) api.Graph {
	g := api.Graph{N: n}
	for i := 0; i+1 < len(l); i += 2 {
		g.Edges = append(g.Edges, [2]int{l[i], l[i+1]})
	}
	return g
}

// sifted has n nodes, and an edge between two of them, the lesser one first, where near says so.
func sifted(n int, near func(u, v int) bool) api.Graph {
	g := api.Graph{N: n}
	for u := range n {
		for v := u + 1; v < n; v++ {
			if near(u, v) {
				g.Edges = append(g.Edges, [2]int{u, v})
			}
		}
	}
	return g
}

func full(n int) api.Graph { return sifted(n, func(u, v int) bool { return true }) }

func path(n int) api.Graph { return sifted(n, func(u, v int) bool { return v == u+1 }) }

func ring(n int) api.Graph {
	return sifted(n, func(u, v int) bool { return v == u+1 || u == 0 && v == n-1 })
}

// sides has all edges from the first nodes, so many, to the others.
func sides(a, b int) api.Graph { return sifted(a+b, func(u, v int) bool { return u < a && v >= a }) }

// cube has a node for each number of three bits, and edges where one bit differs.
func cube() api.Graph {
	return sifted(8, func(u, v int) bool { return (u^v)&(u^v-1) == 0 })
}

// scrambled has the edges of g from the last to the first, every other one the other way round.
func scrambled(g api.Graph) api.Graph {
	h := api.Graph{N: g.N}
	for i, e := range slices.Backward(g.Edges) {
		if i%2 == 0 {
			e[0], e[1] = e[1], e[0]
		}
		h.Edges = append(h.Edges, e)
	}
	return h
}

// small has all graphs of n nodes, in form.
func small(n int) []api.Graph {
	var out []api.Graph
	pairs := full(n).Edges
	for set := range 1 << len(pairs) {
		g := api.Graph{N: n}
		for i, e := range pairs {
			if set>>i&1 == 1 {
				g.Edges = append(g.Edges, e)
			}
		}
		out = append(out, g)
	}
	return out
}

// mixed has n nodes, and of the pairs of them so many of a hundred as edges.
func mixed(n, percent, seed int) api.Graph {
	draw := drawFrom(seed)
	return sifted(n, func(u, v int) bool { return draw(100) < percent })
}

// drawFrom answers a function that draws numbers below some n, none of them chosen by hand; the same ones each time.
func drawFrom(seed int) func(n int) int {
	x := uint64(seed)*2654435761 + 12345
	return func(n int) int {
		x = x*6364136223846793005 + 1442695040888963407
		return int(x>>33) % n
	}
}

// grown is a formula of about so many parts, with names of those that are given, bound at most so deep; none of it is at fault.
func grown(draw func(n int) int, parts, deep int, nodes, sets []string) api.Formula {
	if parts <= 1 {
		return leaf(draw, nodes, sets)
	}
	node := func() string { return nodes[draw(len(nodes))] }
	switch kind := draw(10); {
	case kind < 2:
		return not(grown(draw, parts-1, deep, nodes, sets))
	case kind < 6 && deep > 0:
		name := node()
		if draw(3) == 0 && len(sets) > 0 {
			name = sets[draw(len(sets))]
		}
		return part(api.FAll+draw(2), name, "", grown(draw, parts-1, deep-1, nodes, sets))
	}
	first := 1 + draw(max(1, parts-2))
	return part(api.FAnd+draw(3), "", "", grown(draw, first, deep, nodes, sets), grown(draw, parts-1-first, deep, nodes, sets))
}

func leaf(draw func(n int) int, nodes, sets []string) api.Formula {
	node := func() string { return nodes[draw(len(nodes))] }
	switch kind := draw(12); {
	case kind == 0:
		return yes()
	case kind == 1:
		return no()
	case kind < 5:
		return near(node(), node())
	case kind < 7 || len(sets) == 0:
		return is(node(), node())
	}
	return in(node(), sets[draw(len(sets))])
}

// wild is a formula of any form: kinds, names and Kids may be wrong.
func wild(draw func(n int) int, deep int) api.Formula {
	names := []string{"", "", "x", "y1", "S", "Жук", "not", "9", "x y", "\xff", "ж", "in", "x²"}
	f := api.Formula{Kind: draw(12), A: names[draw(len(names))], B: names[draw(len(names))]}
	if draw(30) == 0 {
		f.Kind = []int{-1, 12, 255, 1 << 40, -1 << 63}[draw(5)]
	}
	if draw(4) > 0 {
		f.A, f.B = fitting(draw, f.Kind)
	}
	kids := draw(4)
	if draw(8) > 0 {
		kids = kidsOf(f.Kind)
	}
	for range kids {
		if deep > 0 {
			f.Kids = append(f.Kids, wild(draw, deep-1))
		} else {
			f.Kids = append(f.Kids, yes())
		}
	}
	return f
}

// fitting are names that a kind wants.
func fitting(draw func(n int) int, kind int) (a, b string) {
	nodes, sets := []string{"x", "y1", "ж"}, []string{"S", "Жук"}
	switch kind {
	case api.FNear, api.FSame:
		return nodes[draw(3)], nodes[draw(3)]
	case api.FIn:
		return nodes[draw(3)], sets[draw(2)]
	case api.FAll, api.FSome:
		return append(nodes, sets...)[draw(5)], ""
	}
	return "", ""
}

// spaced writes tokens with spaces and line feeds between them, at least where two of them would run together.
func spaced(draw func(n int) int, tokens []string) string {
	gaps := []string{"", " ", " ", "\n", "  ", " \n\n"}
	var out strings.Builder
	for i, token := range tokens {
		gap := gaps[draw(len(gaps))]
		if gap == "" && i > 0 && runsOn(tokens[i-1]) && runsOn(token) {
			gap = " "
		}
		out.WriteString(gap + token)
	}
	return out.String() + gaps[draw(len(gaps))]
}

// runsOn tells whether a token is no sign.
func runsOn(token string) bool { return !strings.ContainsAny(token, "-~=:()") }
