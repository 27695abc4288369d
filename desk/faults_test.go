package desk_test

import (
	"strings"
	"testing"

	"arbor/api"
	"arbor/desk"
)

// wantRefused looks whether a text tells a fault, and nothing beside it.
func wantRefused(t *testing.T, text string, want api.Fault) {
	t.Helper()
	if answer, f := desk.Run(text); answer != "" || f != want {
		t.Errorf("%.60q, %d bytes: %.60q %v, want %v", text, len(text), answer, f, want)
	}
}

func TestLongTexts(t *testing.T) {
	for _, line := range []string{"parts\n", "\n", "node a b\n", "what \n"} {
		many := api.MaxText / len(line)
		rest := strings.Repeat("x", api.MaxText-many*len(line)) // a last line, which lacks its line feed
		whole := strings.Repeat(line, many)
		answer, f := desk.Run(whole)
		if got := strings.Count(answer, "\n"); got != many || f != (api.Fault{}) {
			t.Errorf("%q, %d times: %d lines and %v", line, many, got, f)
		}
		if rest != "" {
			wantRefused(t, whole+rest, fault(api.ErrText, many))
		}
		wantRefused(t, whole+rest+"x", fault(api.ErrMany, 0))
		wantRefused(t, whole+line, fault(api.ErrMany, 0))
	}
	wantRefused(t, strings.Repeat("a", api.MaxText), fault(api.ErrText, 0))
	wantRefused(t, strings.Repeat("a", api.MaxText)+"\n", fault(api.ErrMany, 0))
	wantRefused(t, strings.Repeat("a", 1<<20), fault(api.ErrMany, 0))
	if answer, f := desk.Run(strings.Repeat("a", api.MaxText-1) + "\n"); answer != told(api.ErrKind, 0)+"\n" || f != (api.Fault{}) {
		t.Errorf("a line as long as can be: %q %v", answer, f)
	}
	wantAnswers(t, "ask "+strings.Repeat(" ", api.MaxText-9)+"true", "yes")
}

// A text is as long as its bytes, not as its letters.
func TestTextsAreCountedInBytes(t *testing.T) {
	wantRefused(t, strings.Repeat("ж", api.MaxText/2)+"\n", fault(api.ErrMany, 0))
	wantAnswers(t, strings.Repeat("ж", api.MaxText/2-1), told(api.ErrKind, 0))
}

func TestTextsWithoutALastLineFeed(t *testing.T) {
	for many := range 50 {
		for _, last := range []string{"parts", "x", " ", "\r", "node a\x00", "\xff", "ask true"} {
			wantRefused(t, strings.Repeat("parts\n", many)+last, fault(api.ErrText, many))
			wantRefused(t, strings.Repeat("\n", many)+last, fault(api.ErrText, many))
		}
	}
	wantRefused(t, "parts\nparts\r", fault(api.ErrText, 1))
	wantRefused(t, "what\nnode A\nundo", fault(api.ErrText, 2))
}

func TestUnknownOrders(t *testing.T) {
	unknown := []string{"", " ", "  ", "what", "Node", "NODE a", "nodes a", "nod a", " node a", "\tnode a", "node\ta", "node\ra", "undo\r", "parts\r", "\rparts", "parts\x00", "\x00", "\xff", "parts.", "part", "partss", "ask\u00a0true", "color", "colors", "colour", "graph", "canon", "fault", "ok", "yes", "[", "none", "two", "some", "1", "-", "edge\ta\tb", "ａsk true", "asк true", "clique,", "widths", "least", "plane\v", "quit", "help"}
	for _, line := range unknown {
		wantAnswers(t, "node a b", "ok", line, told(api.ErrKind, 0), "parts", "2", "undo", "ok", "undo", "ok", "parts", "0")
	}
}

// wantsNone has all orders without words behind them.
func wantsNone() []string {
	return strings.Fields("undo parts bytes trees girth rings colours width turns plane chords sides clique")
}

func TestNumbersOfWords(t *testing.T) {
	size := told(api.ErrSize, 0)
	for _, order := range wantsNone() {
		for _, words := range []string{" ", "  ", " a", " a b", " a b c", " 1", "  a"} {
			wantAnswers(t, "node a b", "ok", order+words, size, "parts", "2", "undo", "ok", "undo", "ok")
		}
	}
	for _, order := range []string{"edge", "cut", "joined"} {
		for _, words := range []string{"", " ", " a", " x", " a b a", " a b ", "  a b", " a  b", "   "} {
			wantAnswers(t, "node a b", "ok", order+words, size, "joined a b", "no", "undo", "ok", "undo", "ok")
		}
	}
	wantAnswers(t, "node", size, "ask", size, "parts", "0")
}

// A word may be empty.
func TestEmptyWords(t *testing.T) {
	name := func(at int) string { return told(api.ErrName, at) }
	wantAnswers(t,
		"node ", name(0), "node  ", name(0), "node a ", name(1), "node a  b", name(1), "node  a", name(0), "node a b ", name(2), "parts", "0",
		"node a", "ok",
		"edge  ", name(0), "edge a ", name(1), "edge  a", name(0), "cut  ", name(0), "cut a ", name(1), "joined  ", name(0), "joined a ", name(1),
		"ask ", told(api.ErrText, 0), "ask  ", told(api.ErrText, 1), "ask   ", told(api.ErrText, 2), "ask true ", "yes", "ask  true", "yes",
	)
}

// What stands behind an order is counted, ahead of what it is.
func TestFaultsInTheirOrder(t *testing.T) {
	kind, size := told(api.ErrKind, 0), told(api.ErrSize, 0)
	lines := append(written(none(25)), "what A", "what", "undo A", "edge A", "cut A", "joined A", "edge A B C")
	answers := run(t, lines...)
	for i, want := range []string{"ok", kind, kind, size, size, size, size, size} {
		if answers[i] != want {
			t.Errorf("%.30q: %s, want %s", lines[i], answers[i], want)
		}
	}
	for _, order := range []string{"colours", "width", "rings", "turns", "clique"} {
		wantLast(t, written(none(25)), order+" a", size)
		wantLast(t, written(none(25)), order, told(api.ErrMany, 0))
	}
	wantAnswers(t, "undo x", size, "undo", told(api.ErrState, 0), "edge a a a", size, "edge a a", told(api.ErrName, 0))
}

func TestFaultsOfNames(t *testing.T) {
	first, second := told(api.ErrName, 0), told(api.ErrName, 1)
	for _, order := range []string{"edge ", "cut ", "joined "} {
		wantAnswers(t,
			order+"a b", first, "node a b c", "ok", "edge a b", "ok",
			order+"x a", first, order+"a x", second, order+"x x", first, order+"x y", first, order+"A b", first, order+"b A", second, order+"a aa", second,
			"undo", "ok", "undo", "ok", order+"c a", first, order+"a c", second, order+"c c", first,
		)
	}
	for _, name := range []string{"A", "1", "1a", "a_", "ä", "aä", "a\tb", "\xff", "a\x00", "a\r", "abcdefghijklmnopqrstu", "a-b", "[a]"} {
		wantAnswers(t, "node "+name, first, "node b "+name, second, "node b c "+name+" A", told(api.ErrName, 2), "parts", "0", "node b", "ok", "edge b "+name, second, "joined "+name+" b", first)
	}
}

func TestFaultsOfEdgesAndCuts(t *testing.T) {
	wantAnswers(t,
		"node a b c", "ok", "edge a b", "ok",
		"edge a a", told(api.ErrLoop, 0), "edge a b", told(api.ErrTwice, 0), "edge b a", told(api.ErrTwice, 0),
		"cut a c", told(api.ErrNone, 0), "cut a a", told(api.ErrNone, 0), "cut b a", "ok", "cut a b", told(api.ErrNone, 0),
		"undo", "ok", "edge a b", told(api.ErrTwice, 0), "undo", "ok", "cut a b", told(api.ErrNone, 0), "parts", "3",
	)
}

// As many edges as may be.
func TestEdgesAboveTheLimit(t *testing.T) {
	g := sifted(api.MaxNodes, func(u, v int) bool { return u < 10 })
	g.Edges = append(g.Edges, sifted(api.MaxNodes, func(u, v int) bool { return u == 10 && v > 10 }).Edges...)
	g.Edges = g.Edges[:api.MaxEdges]
	last := g.Edges[api.MaxEdges-1]
	a, b, c := named(last[0]), named(last[1]), named(last[1]+1)
	lines := append(written(g), "edge "+a+" "+c, "edge "+b+" "+a, "edge "+a+" "+a, "parts", "undo", "edge "+c+" "+a, "edge "+a+" "+b, "cut "+a+" "+c, "edge "+a+" "+b)
	answers := run(t, lines...)
	for i, want := range []string{told(api.ErrMany, 0), told(api.ErrTwice, 0), told(api.ErrLoop, 0), "1", "ok", "ok", told(api.ErrMany, 0), "ok", "ok"} {
		if got := answers[1+api.MaxEdges+i]; got != want {
			t.Errorf("%s behind %d edges: %s, want %s", lines[1+api.MaxEdges+i], api.MaxEdges, got, want)
		}
	}
	wantLast(t, written(g), "girth", "3")
	wantLast(t, written(g), "plane", "no")
}

// The limits of the questions, and one node more.
func TestQuestionsAtTheirLimits(t *testing.T) {
	many := told(api.ErrMany, 0)
	small, great := written(none(api.MaxSmall)), written(none(2*api.MaxSmall))
	for order, want := range map[string]string{"colours": "1", "width": "0", "rings": "0"} {
		wantLast(t, small, order, want)
		wantLast(t, append(small, "node more"), order, many)
		wantLast(t, append(small, "node more", "undo"), order, want)
	}
	for order, want := range map[string]string{"turns": "620448401733239439360000", "clique": "[a]"} {
		wantLast(t, great, order, want)
		wantLast(t, append(great, "node more"), order, many)
		wantLast(t, append(great, "node more", "undo"), order, want)
	}
	for order, want := range map[string]string{"parts": "100", "trees": "0", "girth": "0", "plane": "yes", "chords": "yes", "sides": "yes"} {
		wantLast(t, written(none(api.MaxNodes)), order, want)
	}
	world := written(none(api.MaxWorld))
	wantLast(t, world, "ask all x: x = x", "yes")
	wantLast(t, append(world, "node more"), "ask true", many)
	wantLast(t, append(world, "node more"), "ask x = x", many)
}

func TestFaultsOfFormulas(t *testing.T) {
	for formula, want := range map[string]string{
		"(":                         told(api.ErrText, 1),
		"x":                         told(api.ErrText, 1),
		"x ~":                       told(api.ErrText, 3),
		"x  ~  ?":                   told(api.ErrText, 6),
		"x ~ y z":                   told(api.ErrText, 6),
		"x in y":                    told(api.ErrText, 5),
		"ж ~ ж ж":                   told(api.ErrText, 8), // places are counted in bytes
		"x\t~ y":                    told(api.ErrText, 1),
		"x ~ y\r":                   told(api.ErrText, 5),
		"\xff":                      told(api.ErrText, 0),
		"true false":                told(api.ErrText, 5),
		"all x true":                told(api.ErrText, 6),
		"x in S":                    told(api.ErrName, 0),
		"a = b or a in B or b in B": told(api.ErrName, 0), // B, a, b: great letters come first
		"ä in Ä or ä1 in ä":         told(api.ErrText, 19),
		"б in Д or z = z":           told(api.ErrName, 1),
		"a=a and b=b and c=c and d=d and e=e and f=f": told(api.ErrMany, 0),
		"some S T U: true": told(api.ErrMany, 0),
		"some S T: x in S and y in T and z = z and (some u: u = u)": told(api.ErrMany, 0),
		strings.Repeat("not ", api.MaxParts) + "true":               told(api.ErrMany, 0),
		strings.Repeat("not ", api.MaxParts-2) + "true":             "yes",
		"true" + strings.Repeat(" and true", api.MaxParts/2):        told(api.ErrMany, 0),
		"true" + strings.Repeat(" and true", api.MaxParts/2-1):      "yes",
		"x in S and": told(api.ErrText, 10), // it is read, ahead of what it says
	} {
		wantAnswers(t, "node a b", "ok", "ask "+formula, want)
	}
	wantLast(t, written(none(9)), "ask (", told(api.ErrText, 1))
	wantLast(t, written(none(9)), "ask x in S", told(api.ErrName, 0))
	wantLast(t, written(none(api.MaxNodes)), "ask true", told(api.ErrMany, 0))
}
