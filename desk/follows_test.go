package desk_test

import (
	"fmt"
	"strings"
	"testing"

	"arbor/api"
	"arbor/chords"
	"arbor/codec"
	"arbor/colour"
	"arbor/desk"
	"arbor/logic"
	turned "arbor/names"
	"arbor/parts"
	"arbor/plane"
	"arbor/poly"
	"arbor/trees"
	"arbor/walks"
	"arbor/width"
)

// lineOf tells what a line should be answered, if the call that the chapter names says this.
func lineOf(answer any, f api.Fault) string {
	if f != (api.Fault{}) {
		return told(f.Code, f.At)
	}
	return fmt.Sprint(answer)
}

// calls answers all questions about a graph by the calls that the chapter names.
func calls(g api.Graph) map[string]string {
	out := map[string]string{}
	put := func(order string) func(answer any, f api.Fault) {
		return func(answer any, f api.Fault) { out[order] = lineOf(answer, f) }
	}
	lists, f := parts.Components(g)
	put("parts")(len(lists), f)
	bytes, f := codec.Pack(g)
	put("bytes")(bytes, f)
	many, f := trees.Count(g)
	put("trees")(many, f)
	girth, f := walks.Girth(g)
	put("girth")(girth, f)
	rings, f := poly.Rings(g)
	put("rings")(rings, f)
	k, _, f := colour.Number(g)
	put("colours")(k, f)
	least, _, _, f := width.Least(g)
	put("width")(least, f)
	_, many, f = turned.Turns(g)
	put("turns")(many, f)
	_, bad, f := plane.Embed(g)
	put("plane")(yes(bad == nil), f)
	_, hole, f := chords.Order(g)
	put("chords")(yes(hole == nil), f)
	_, odd, f := parts.Sides(g)
	put("sides")(yes(odd == nil), f)
	clique, f := colour.Clique(g)
	put("clique")(state{names: names(g.N)}.write(clique), f)
	return out
}

// asked answers a formula by the calls of package logic.
func asked(g api.Graph, formula string) string {
	says, f := logic.Read(formula)
	if f != (api.Fault{}) {
		return told(f.Code, f.At)
	}
	free, _ := logic.Free(says)
	ways, f := logic.Ask(g, says)
	if f == (api.Fault{}) && len(free) == 0 {
		return yes(len(ways) == 1)
	}
	var all []string
	for _, way := range ways {
		all = append(all, state{names: names(g.N)}.write(way))
	}
	return lineOf(strings.Join(all, ""), f)
}

func formulas() []string {
	return []string{
		"true", "false", "x ~ y", "x = y", "x ~ y and y ~ z and x ~ z", "all x: some y: x ~ y", "a=b or c=d or e=e", "not v ~ v", "x ~ x",
		"some z: x ~ z and y ~ z and not x = y", "all S: x in S -> y in S", "some S: x in S and not y in S and all u v: u in S and u ~ v -> v in S",
		"some S T: x in S and not x in T", "x in S", "a=a and b=b and c=c and d=d and e=e and f=f", "x ~", "", " ", "ж ~ y", "X = y", "(true", "all x y z u v w: x ~ y",
		strings.Repeat("(", 150) + "x ~ y" + strings.Repeat(")", 150), strings.Repeat("(", 250) + "x ~ y" + strings.Repeat(")", 250), "x\xff~ y", "some x x: x ~ y", "-> true", "true -> false",
	}
}

// graphs of all sizes, below the questions' limits and above.
func graphs() []api.Graph {
	l := []api.Graph{none(0), none(40), full(6), full(8), full(12), full(20), path(30), path(100), ring(24), ring(25), ring(100), sides(3, 4), sides(10, 14), sides(1, 99), sides(40, 25), petersen(), full(45)}
	for seed := range 60 {
		l = append(l, mixed(1+seed%13, 10+seed*7%80, seed), mixed(13+seed%13, 5+seed*11%70, seed+1000), mixed(26+seed, 3+seed%9, seed+2000))
	}
	return l
}

// Each question about a graph is answered by the call that the chapter names.
func TestQuestionsAreCalls(t *testing.T) {
	for i, g := range graphs() {
		lines := written(g)
		made := len(lines)
		want := calls(g)
		for _, order := range wantsNone()[1:] {
			lines = append(lines, order)
		}
		for _, formula := range formulas() {
			lines = append(lines, "ask "+formula)
			want["ask "+formula] = asked(g, formula)
		}
		answers := run(t, lines...)
		for at, line := range lines {
			if at < made && answers[at] != "ok" {
				t.Fatalf("graph %d, %.50q: %s", i, line, answers[at])
			}
			if at >= made && answers[at] != want[line] {
				t.Errorf("graph %d of %d nodes and %d edges, %q: %.200q, want %.200q", i, g.N, len(g.Edges), line, answers[at], want[line])
			}
		}
	}
}

// The bytes of a graph tell it whole.
func TestBytesAreRead(t *testing.T) {
	for i, g := range graphs() {
		answers := run(t, append(written(g), "bytes")...)
		is, f := codec.Unpack(answers[len(answers)-1])
		packed, _ := codec.Pack(g)
		again, _ := codec.Pack(is)
		if f != (api.Fault{}) || is.N != g.N || len(is.Edges) != len(g.Edges) || packed != again {
			t.Errorf("graph %d comes back as %v, %v", i, is, f)
		}
	}
}

// However a graph was come to, the questions are answered the same.
func TestWaysToAGraph(t *testing.T) {
	for seed := range 40 {
		g := mixed(2+seed%11, 40, seed)
		draw := drawFrom(seed)
		straight := written(g)
		var bent []string
		for _, line := range straight {
			for range draw(3) {
				bent = append(bent, []string{"node more", "node more others", "edge more a", "what"}[draw(4)])
			}
			bent = append(bent, line)
		}
		for range 300 { // more than there are changes
			bent = append(bent, "undo")
		}
		bent = append(bent, straight...)
		var lines []string
		for _, order := range wantsNone()[1:] {
			lines = append(lines, order)
		}
		lines = append(lines, "ask x ~ y", "ask all x: some y: x ~ y")
		one := run(t, append(straight, lines...)...)
		other := run(t, append(bent, lines...)...)
		for i, line := range lines {
			if a, b := one[len(one)-len(lines)+i], other[len(other)-len(lines)+i]; a != b {
				t.Errorf("graph %d, %q: %s, and %s", seed, line, a, b)
			}
		}
	}
}

// A text and its beginnings: the lines that both have are answered the same.
func TestBeginningsOfTexts(t *testing.T) {
	for seed := range 30 {
		draw := drawFrom(seed + 500)
		var lines []string
		for range 40 {
			lines = append(lines, drawLine(draw))
		}
		whole, _ := desk.Run(text(lines))
		for many := range lines {
			if part, f := desk.Run(text(lines[:many])); !strings.HasPrefix(whole, part) || strings.Count(part, "\n") != many || f != (api.Fault{}) {
				t.Fatalf("text %d, %d lines: %q %v, whole %q", seed, many, part, f, whole)
			}
		}
	}
}
