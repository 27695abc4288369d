package desk_test

import (
	"fmt"
	"strings"
	"testing"

	"arbor/api"
	"arbor/desk"
)

func fault(code, at int) api.Fault { return api.Fault{Code: code, At: at} }

// told is a fault as a line tells it.
func told(code, at int) string { return fmt.Sprint("fault ", code, " ", at) }

// text puts a line feed behind each line.
func text(lines []string) string {
	var out strings.Builder
	for _, line := range lines {
		out.WriteString(line + "\n")
	}
	return out.String()
}

// run answers lines one by one.
func run(t *testing.T, lines ...string) []string {
	t.Helper()
	answer, f := desk.Run(text(lines))
	if f != (api.Fault{}) {
		t.Fatalf("%.200q: %v, want no fault", lines, f)
	}
	if answer != "" && !strings.HasSuffix(answer, "\n") {
		t.Fatalf("%.200q: the last line of %.200q has no line feed", lines, answer)
	}
	if many := strings.Count(answer, "\n"); many != len(lines) {
		t.Fatalf("%.200q: %d lines, want %d", lines, many, len(lines))
	}
	answers := strings.Split(answer, "\n")
	return answers[:len(answers)-1]
}

// wantAnswers has lines, each with its answer behind it.
func wantAnswers(t *testing.T, l ...string) {
	t.Helper()
	var lines []string
	for i := 0; i < len(l); i += 2 {
		lines = append(lines, l[i])
	}
	for i, got := range run(t, lines...) {
		if want := l[2*i+1]; got != want {
			t.Errorf("%.100q behind %.300q: %.100q, want %.100q", lines[i], lines[:i], got, want)
		}
	}
}

// wantLast looks at the answer of the last line, behind others that should tell no fault.
func wantLast(t *testing.T, ahead []string, line, want string) {
	t.Helper()
	answers := run(t, append(append([]string{}, ahead...), line)...)
	for i, answer := range answers[:len(ahead)] {
		if strings.HasPrefix(answer, "fault") {
			t.Fatalf("%.100q: %s", ahead[i], answer)
		}
	}
	if got := answers[len(ahead)]; got != want {
		t.Errorf("%.100q behind %.300q: %.100q, want %.100q", line, ahead, got, want)
	}
}

// named gives each number below 936 a name of one or two bytes.
func named(v int) string {
	const letters = "abcdefghijklmnopqrstuvwxyz0123456789"
	if v < 26 {
		return letters[v : v+1]
	}
	return letters[v/36:v/36+1] + letters[v%36:v%36+1]
}

// names has the first names, so many.
func names(many int) []string {
	var out []string
	for v := range many {
		out = append(out, named(v))
	}
	return out
}

// written has lines that make a graph, with every other edge the other way round.
func written(g api.Graph) []string {
	var lines []string
	if g.N > 0 {
		lines = append(lines, "node "+strings.Join(names(g.N), " "))
	}
	for i, e := range g.Edges {
		lines = append(lines, "edge "+named(e[i%2])+" "+named(e[1-i%2]))
	}
	return lines
}

// sifted has an edge where near says so.
func sifted(n int, near func(u, v int) bool) api.Graph {
	g := api.Graph{N: n}
	for u := range n {
		for v := u + 1; v < n; v++ {
			if near(u, v) {
				g.Edges = append(g.Edges, [2]int{u, v})
			}
		}
	}
	return g
}

func none(n int) api.Graph { return api.Graph{N: n} }

func full(n int) api.Graph { return sifted(n, func(u, v int) bool { return true }) }

func path(n int) api.Graph { return sifted(n, func(u, v int) bool { return v == u+1 }) }

func ring(n int) api.Graph {
	return sifted(n, func(u, v int) bool { return v == u+1 || u == 0 && v == n-1 })
}

// sides has all edges between the first nodes and all others.
func sides(a, b int) api.Graph { return sifted(a+b, func(u, v int) bool { return u < a && v >= a }) }

func petersen() api.Graph {
	return sifted(10, func(u, v int) bool {
		switch {
		case v < 5:
			return v == u+1 || v == u+4
		case u < 5:
			return v == u+5
		}
		return v == u+2 || v == u+3
	})
}

// drawFrom answers a function that draws numbers below some n, none of them chosen by hand; the same ones each time.
func drawFrom(seed int) func(n int) int {
	x := uint64(seed)*2654435761 + 12345
	return func(n int) int {
		x = x*6364136223846793005 + 1442695040888963407
		return int(x>>33) % n
	}
}

// mixed has so many of a hundred edges.
func mixed(n, percent, seed int) api.Graph {
	draw := drawFrom(seed)
	return sifted(n, func(u, v int) bool { return draw(100) < percent })
}
