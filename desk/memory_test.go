package desk_test

import (
	"strings"
	"sync"
	"testing"

	"arbor/api"
	"arbor/desk"
)

// mixedText has lines that nobody chose by hand.
func mixedText(seed, many int) string {
	draw := drawFrom(seed)
	var lines []string
	for range many {
		lines = append(lines, drawLine(draw))
	}
	return text(lines)
}

// The same text is answered the same each time, whatever was answered between.
func TestRunIsTheSameEachTime(t *testing.T) {
	const many = 50
	var first [many]string
	for i := range many {
		first[i], _ = desk.Run(mixedText(i+7000, 80))
	}
	for i := many - 1; i >= 0; i-- {
		if again, f := desk.Run(mixedText(i+7000, 80)); again != first[i] || f != (api.Fault{}) {
			t.Errorf("text %d: %q %v, at first %q", i, again, f, first[i])
		}
	}
}

// Texts side by side are answered as one behind the other.
func TestRunSideBySide(t *testing.T) {
	const many = 60
	var want, got [many]string
	for i := range many {
		want[i], _ = desk.Run(mixedText(i+8000, 100))
	}
	var all sync.WaitGroup
	for i := range many {
		all.Go(func() { got[i], _ = desk.Run(mixedText(i+8000, 100)) })
	}
	all.Wait()
	for i := range many {
		if got[i] != want[i] {
			t.Errorf("text %d: %q side by side, else %q", i, got[i], want[i])
		}
	}
}

// wantWhole looks at what any text is answered: a line for each line, or a fault and nothing else.
func wantWhole(t *testing.T, text string) {
	t.Helper()
	answer, f := desk.Run(text)
	want := api.Fault{}
	switch {
	case len(text) > api.MaxText:
		want = fault(api.ErrMany, 0)
	case text != "" && !strings.HasSuffix(text, "\n"):
		want = fault(api.ErrText, strings.Count(text, "\n"))
	}
	if f != want {
		t.Errorf("%.100q: %v, want %v", text, f, want)
	}
	if f != (api.Fault{}) && answer != "" {
		t.Errorf("%.100q: %.100q beside %v", text, answer, f)
	}
	if f == (api.Fault{}) && (strings.Count(answer, "\n") != strings.Count(text, "\n") || answer != "" && !strings.HasSuffix(answer, "\n")) {
		t.Errorf("%.100q: answered %.100q", text, answer)
	}
}

// Whatever the text is, no call panics.
func TestNoCallPanics(t *testing.T) {
	pieces := []string{"node", "edge", "cut", "undo", "joined", "ask", "parts", "clique", "turns", "width", " ", " ", " ", " ", "\n", "\n", "\n", "a", "b", "c", "a b", "\x00", "\xff", "ä", "\r", "\t", "-1", "~", "all x:", "x ~ y", "(", "fault 1 0", "true"}
	for seed := range 3000 {
		draw := drawFrom(seed)
		var out strings.Builder
		for range draw(60) {
			out.WriteString(pieces[draw(len(pieces))])
		}
		wantWhole(t, out.String())
		wantWhole(t, out.String()+"\n")
	}
}

// All texts of up to two bytes, and each byte in a line.
func TestShortTexts(t *testing.T) {
	for a := range 256 {
		one := string([]byte{byte(a)})
		wantWhole(t, one)
		for _, line := range []string{"node ", "edge a ", "ask ", "ask x ~ ", "parts", "undo "} {
			wantWhole(t, line+one+"\n")
		}
		for b := range 256 {
			wantWhole(t, one+string([]byte{byte(b)}))
		}
	}
}

// Long texts of one kind of line.
func TestLongTextsOfOneLine(t *testing.T) {
	for _, line := range []string{"\n", " \n", "undo\n", "node a\n", "node \n", "parts\n", "bytes\n", "clique\n", "ask true\n", "ask x = y\n", "a", " ", "node a b c d e f g h\n", "joined a a\n", "width\n"} {
		wantWhole(t, strings.Repeat(line, api.MaxText/len(line)))
		wantWhole(t, strings.Repeat(line, api.MaxText/len(line)+1))
	}
	var lines []string
	for i := range 100 {
		lines = append(lines, "node "+named(i))
	}
	grown := text(lines)
	wantWhole(t, grown+strings.Repeat("node "+strings.Repeat("b ", 100)+"\n", 50))
	wantWhole(t, grown+strings.Repeat("undo\n", 3000))
	wantWhole(t, strings.Repeat("node a b\nedge a b\ncut b a\nundo\nundo\nundo\nundo\n", 400))
}
