package logic_test

import (
	"fmt"
	"math"
	"slices"
	"strings"
	"testing"

	"arbor/api"
	"arbor/logic"
)

// spareOf is a formula all of whose lists have memory behind their length, in which odd things stand.
func spareOf(f api.Formula) api.Formula {
	odd := part(-7, "?", "?")
	l := append(slices.Clone(f.Kids), odd, odd)
	for i, kid := range f.Kids {
		l[i] = spareOf(kid)
	}
	f.Kids = l[:len(f.Kids)]
	return f
}

// tellWhole tells a formula of spareOf with what stands behind its lists.
func tellWhole(f api.Formula) string {
	told := fmt.Sprintf("%d %q %q [", f.Kind, f.A, f.B)
	for _, kid := range f.Kids[:len(f.Kids)+2] {
		if kid.Kind == -7 {
			told += fmt.Sprint(kid)
		} else {
			told += tellWhole(kid)
		}
	}
	return told + "]"
}

// tellAll tells what all calls answer.
func tellAll(g api.Graph, f api.Formula, s string) string {
	r, fault := logic.Read(s)
	told := fmt.Sprint(logic.Check(f), r, fault)
	text, fault := logic.Print(f)
	told += fmt.Sprint(text, fault)
	free, fault := logic.Free(f)
	told += fmt.Sprint(free, fault)
	ways, fault := logic.Ask(g, f)
	return told + fmt.Sprint(ways, fault)
}

// question is what the calls can be asked.
type question struct {
	g api.Graph
	f api.Formula
	s string
}

// asked has questions of all kinds that are answered, and some that are not.
func asked() []question {
	var all []question
	for seed := range 150 {
		draw := drawFrom(seed)
		f := grown(draw, 1+seed%30, 1+seed%3, []string{"x", "y", "ж"}, []string{"S", "T"})
		all = append(all, question{scrambled(mixed(seed%6, 50, seed)), f, spaced(draw, written(draw, f))})
		all = append(all, question{mixed(seed%6, 50, seed), wild(draw, seed%5), spaced(draw, written(draw, f)[1:])})
	}
	return append(all, question{of(2, 0, 1, 1, 1), yes(), "\xff"}, question{of(9), times(200, yes(), not), nested(200, "not ", "true", "")})
}

func TestListsAreOnlyRead(t *testing.T) {
	for _, q := range asked() {
		f := spareOf(q.f)
		edges := append(slices.Clone(q.g.Edges), [2]int{-7, -7}, [2]int{-7, -7})
		g := api.Graph{N: q.g.N, Edges: edges[:len(q.g.Edges)]}
		before := tellWhole(f) + fmt.Sprint(edges)
		first, second, third := tellAll(g, f, q.s), tellAll(g, f, q.s), tellAll(q.g, q.f, q.s)
		if first != second || first != third {
			t.Errorf("%s, then %s, then %s", first, second, third)
		}
		if after := tellWhole(f) + fmt.Sprint(edges); after != before {
			t.Errorf("%s was changed to %s", before, after)
		}
	}
}

// kidsIn lists all lists of Kids of a formula.
func kidsIn(f api.Formula) [][]api.Formula {
	out := [][]api.Formula{f.Kids}
	for _, kid := range f.Kids {
		out = append(out, kidsIn(kid)...)
	}
	return out
}

// wantApart writes over all memory of each list, and looks whether another one that has not been written over yet changes.
func wantApart[T any](t *testing.T, name string, lists [][]T, odd T) {
	t.Helper()
	for i, l := range lists {
		told := fmt.Sprintf("%+v", lists[i+1:])
		for j := range l[:cap(l)] {
			l[:cap(l)][j] = odd
		}
		if fmt.Sprintf("%+v", lists[i+1:]) != told {
			t.Errorf("%s: list %d shares memory with one behind it", name, i)
		}
	}
}

func TestAnswersAreNewMemory(t *testing.T) {
	for _, q := range asked() {
		before := tellAll(q.g, q.f, q.s)
		f, _ := logic.Read(q.s)
		told := fmt.Sprint(copied(f))
		again, _ := logic.Read(q.s)
		lists := kidsIn(f)
		slices.Reverse(lists) // the outermost last, since writing over it changes what it has
		for i, l := range lists {
			for _, other := range lists[i+1:] {
				if cap(l) > 0 && cap(other) > 0 && &l[:cap(l)][0] == &other[:cap(other)][0] {
					t.Errorf("Read of %q: two lists share memory", q.s)
				}
			}
			for j := range l[:cap(l)] {
				l[:cap(l)][j] = part(-9, "?", "?")
			}
		}
		if fmt.Sprint(again) != told {
			t.Errorf("Read of %q: %v, then %v", q.s, told, again)
		}
		free, _ := logic.Free(q.f)
		wantApart(t, "Free", [][]string{free}, "?")
		ways, _ := logic.Ask(q.g, q.f)
		wantApart(t, "Ask", ways, -9)
		wantApart(t, "Ask", [][][]int{ways}, nil)
		if after := tellAll(q.g, q.f, q.s); after != before {
			t.Errorf("%s, then %s", before, after)
		}
	}
}

// One list may stand in several places of what comes in.
func TestListsThatAreShared(t *testing.T) {
	kids := []api.Formula{near("x", "y"), is("x", "z")}
	both := api.Formula{Kind: api.FAnd, Kids: kids}
	f := or(both, api.Formula{Kind: api.FThen, Kids: kids})
	if got, want := tellAll(path(3), f, ""), tellAll(path(3), copied(f), ""); got != want {
		t.Errorf("%s, want %s", got, want)
	}
}

func TestListsWithoutElementsAreTheSame(t *testing.T) {
	for kind := range 13 {
		f := part(kind, "x", "")
		empty := api.Formula{Kind: kind, A: "x", Kids: []api.Formula{}}
		if got, want := tellAll(of(2), not(f), ""), tellAll(api.Graph{N: 2, Edges: [][2]int{}}, not(empty), ""); got != want {
			t.Errorf("kind %d: %s, then %s", kind, got, want)
		}
	}
	f, empty := near("x", "y"), api.Formula{Kind: api.FNear, A: "x", B: "y", Kids: []api.Formula{}}
	if got, want := tellAll(of(2), f, ""), tellAll(of(2), empty, ""); got != want || !strings.Contains(got, "x ~ y") {
		t.Errorf("%s, then %s", got, want)
	}
}

// Calls side by side do not meet in anything.
func TestCallsSideBySide(t *testing.T) {
	all := asked()[:100]
	want := make([]string, len(all))
	for i, q := range all {
		want[i] = tellAll(q.g, q.f, q.s)
	}
	t.Run("all", func(t *testing.T) {
		for i, q := range all {
			t.Run(fmt.Sprint(i), func(t *testing.T) {
				t.Parallel()
				if got := tellAll(q.g, q.f, q.s); got != want[i] {
					t.Errorf("%s, want %s", got, want[i])
				}
			})
		}
	})
}

func TestNoCallPanics(t *testing.T) {
	for seed := range 20000 {
		draw := drawFrom(seed)
		f := wild(draw, seed%9)
		g := of([]int{math.MinInt, -1, 0, 1, 2, 3, 8, 9, 100, 101, math.MaxInt}[draw(11)], 0, 1, draw(9), draw(9)-1)
		if _, fault := logic.Ask(g, f); fault != wantAskFault(g, f) {
			t.Errorf("Ask of %v, %s: %v, want %v", g, short(f), fault, wantAskFault(g, f))
		}
		bytes := make([]byte, draw(40))
		for i := range bytes {
			bytes[i] = byte(draw(256))
		}
		wantReading(t, string(bytes))
	}
}
