package desk_test

import (
	"strings"
	"testing"

	"arbor/api"
	"arbor/desk"
)

// The chapter's example.
func TestExample(t *testing.T) {
	wantAnswers(t, "node a b c", "ok", "edge a b", "ok", "edge b c", "ok", "colours", "2", "ask x ~ y", "[a b][b a][b c][c b]")
	answer, f := desk.Run("node a b c\nedge a b\nedge b c\ncolours\nask x ~ y\n")
	if answer != "ok\nok\nok\n2\n[a b][b a][b c][c b]\n" || f != (api.Fault{}) {
		t.Errorf("the example: %q %v", answer, f)
	}
}

func TestNoLines(t *testing.T) {
	if answer, f := desk.Run(""); answer != "" || f != (api.Fault{}) {
		t.Errorf("no lines: %q %v", answer, f)
	}
}

// All questions about no nodes at all.
func TestNoNodes(t *testing.T) {
	wantAnswers(t,
		"parts", "0", "bytes", "?", "trees", "1", "girth", "0", "rings", "0", "colours", "0", "width", "-1", "turns", "1",
		"plane", "yes", "chords", "yes", "sides", "yes", "clique", "[]",
		"ask true", "yes", "ask false", "no", "ask x = x", "", "ask some x: x = x", "no", "ask all x: false", "yes", "ask some S: true", "yes",
	)
}

// All questions about graphs that the document tells of, and some small ones.
func TestQuestions(t *testing.T) {
	for _, c := range []struct {
		name string
		g    api.Graph
		want string
	}{
		{"a node", none(1), "1 @ 1 0 0 1 0 1 yes yes yes [a]"},
		{"two nodes", none(2), "2 A? 0 0 0 1 0 2 yes yes yes [a]"},
		{"an edge", path(2), "1 A_ 1 0 0 2 1 2 yes yes yes [a b]"},
		{"a path", path(3), "1 Bg 1 0 0 2 1 2 yes yes yes [a b]"},
		{"a triangle", ring(3), "1 Bw 3 3 1 3 2 6 yes yes no [a b c]"},
		{"a ring of four", ring(4), "1 Cl 4 4 1 2 2 8 yes no yes [a b]"},
		{"a ring of five", ring(5), "1 Dhc 5 5 1 3 2 10 yes no no [a b]"},
		{"a star", sides(1, 3), "1 Cs 1 0 0 2 1 6 yes yes yes [a b]"},
		{"four nodes, all edges", full(4), "1 C~ 16 3 3 4 3 24 yes yes no [a b c d]"},
		{"five nodes, all edges", full(5), "1 D~{ 125 3 12 5 4 120 no yes no [a b c d e]"},
		{"three and three", sides(3, 3), "1 EFz_ 81 4 6 2 3 72 no no yes [a d]"},
		{"Petersen's graph", petersen(), "1 IheA@GUAo 2000 5 0 3 4 120 no no no [a b]"},
	} {
		answers := run(t, append(written(c.g), "parts", "bytes", "trees", "girth", "rings", "colours", "width", "turns", "plane", "chords", "sides", "clique")...)
		if got := strings.Join(answers[len(answers)-12:], " "); got != c.want {
			t.Errorf("%s: %s, want %s", c.name, got, c.want)
		}
	}
}

func TestNodes(t *testing.T) {
	wantAnswers(t, "node a", "ok", "parts", "1", "node b c d", "ok", "parts", "4", "node z0", "ok", "ask x = x", "[a][b][c][d][z0]")
	wantAnswers(t, "node "+strings.Join(names(api.MaxNodes), " "), "ok", "parts", "100")
	wantAnswers(t, "node abcdefghijklmnopqrst", "ok", "node a a1", "ok", "clique", "[abcdefghijklmnopqrst]")
}

// Of several words none is added, if one tells a fault, and what stood ahead of the line stays, to be taken back as ever.
func TestNodesOfWhichOneIsWrong(t *testing.T) {
	wantAnswers(t,
		"node a b c A", told(api.ErrName, 3), "parts", "0", "undo", told(api.ErrState, 0),
		"node a", "ok", "node b c", "ok", "edge a c", "ok",
		"node d e f a g", told(api.ErrTwice, 3), "parts", "2", "ask x = x", "[a][b][c]",
		"node d e d", told(api.ErrTwice, 2), "ask x ~ y", "[a c][c a]",
		"node d  e", told(api.ErrName, 1), "parts", "2",
		"node d e ", told(api.ErrName, 2), "parts", "2",
		"node c d", told(api.ErrTwice, 0), "parts", "2",
		"undo", "ok", "parts", "3", "undo", "ok", "ask x = x", "[a][b]", "undo", "ok", "ask x = x", "[a]", "undo", "ok", "undo", told(api.ErrState, 0),
		"node d e", "ok", "ask x = x", "[d][e]",
	)
}

func TestNodesAboveTheLimit(t *testing.T) {
	most := names(api.MaxNodes)
	wantAnswers(t, "node "+strings.Join(append(most, "more"), " "), told(api.ErrMany, api.MaxNodes), "parts", "0", "undo", told(api.ErrState, 0))
	wantAnswers(t,
		"node "+strings.Join(most[2:], " "), "ok",
		"node x1 x2 x3", told(api.ErrMany, 2), "parts", "98",
		"node x1 x1 x3", told(api.ErrTwice, 1), "parts", "98",
		"node x1 x2", "ok", "parts", "100",
		"node x3", told(api.ErrMany, 0), "node x2", told(api.ErrTwice, 0), "node X", told(api.ErrName, 0),
		"undo", "ok", "node x3", "ok", "node x2", told(api.ErrMany, 0),
	)
}

func TestEdges(t *testing.T) {
	wantAnswers(t,
		"node a b c", "ok", "edge c a", "ok", "ask x ~ y", "[a c][c a]", "joined a c", "yes", "joined a b", "no", "joined b b", "yes",
		"edge b c", "ok", "joined a b", "yes", "parts", "1",
		"cut a c", "ok", "joined a b", "no", "joined c b", "yes", "parts", "2",
		"cut b c", "ok", "parts", "3", "ask x ~ y", "", "edge c b", "ok", "parts", "2",
	)
}

func TestUndo(t *testing.T) {
	wantAnswers(t,
		"node a b", "ok", "edge a b", "ok", "cut b a", "ok", "parts", "2",
		"undo", "ok", "parts", "1", "joined a b", "yes",
		"undo", "ok", "parts", "2", "joined a b", "no",
		"undo", "ok", "parts", "1", "ask x = x", "[a]",
		"node b c", "ok", "undo", "ok", "ask x = x", "[a][b]",
		"undo", "ok", "undo", "ok", "parts", "0", "undo", told(api.ErrState, 0), "undo", told(api.ErrState, 0),
	)
}

// Questions, and lines that tell a fault, are no changes.
func TestUndoIsOfChangesAlone(t *testing.T) {
	lines := []string{"node a b", "ok", "edge a b", "ok"}
	for _, line := range []string{"parts", "bytes", "joined a b", "clique", "ask x ~ y", "what", "undo 1", "edge a a", "edge a b", "cut a a", "node", "node c a", "turns", ""} {
		answers := run(t, "node a b", "edge a b", line)
		lines = append(lines, line, answers[2])
	}
	wantAnswers(t, append(lines, "undo", "ok", "ask x ~ y", "", "undo", "ok", "ask x = x", "[a]", "undo", "ok", "undo", told(api.ErrState, 0))...)
}

func TestAsk(t *testing.T) {
	const twoSides = "ask some S: all x y: x ~ y -> (x in S -> not y in S) and (not x in S -> y in S)"
	wantAnswers(t,
		"node c b a", "ok", "edge c b", "ok", "edge a b", "ok",
		"ask x = y", "[c c][b b][a a]", // nodes stand as they came, not as they are called
		"ask y ~ x", "[c b][b c][b a][a b]",
		"ask b ~ a", "[c b][b c][b a][a b]", // a and b are names of the formula, x and y as well
		"ask x ~ x", "", "ask x ~ x and y = z", "",
		"ask not x ~ y and not x = y", "[c a][a c]",
		"ask x ~ ж", "[c b][b c][b a][a b]",
		"ask all x: some y: x ~ y", "yes", "ask some x: all y: x ~ y", "no", "ask some x: all y: x ~ y or x = y", "yes",
		"ask true", "yes", "ask false", "no", "ask not false", "yes",
		"ask some z: z ~ x", "[c][b][a]", "ask all z: z = x or z ~ x", "[b]",
		"ask x=y", "[c c][b b][a a]", "ask  x  =  y ", "[c c][b b][a a]", "ask (x = y)", "[c c][b b][a a]",
		twoSides, "yes", "edge a c", "ok", twoSides, "no",
		"ask x ~ y and y ~ z and z ~ x", "[c b a][c a b][b c a][b a c][a c b][a b c]",
		"ask x ~ y and false", "",
	)
}

func TestCliqueIsWrittenByNames(t *testing.T) {
	wantAnswers(t, "node z y x w", "ok", "clique", "[z]", "edge w y", "ok", "clique", "[y w]", "edge x y", "ok", "edge w x", "ok", "clique", "[y x w]", "cut y w", "ok", "clique", "[y x]")
}

// Each text has a house of its own.
func TestTextsAreApart(t *testing.T) {
	for range 3 {
		wantAnswers(t, "parts", "0", "undo", told(api.ErrState, 0), "node a", "ok", "parts", "1")
	}
}
