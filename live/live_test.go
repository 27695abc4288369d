package live_test

import (
	"testing"

	"arbor/api"
	"arbor/live"
)

func TestNewHasNoNodes(t *testing.T) {
	h := live.New()
	wantTold(t, "New", h, "0 [] [] [] 0")
	wantFault(t, h, "undo", fault(api.ErrState, 0))
}

func TestTheExample(t *testing.T) {
	h := houseOf(t, "node a, node b, edge a b")
	for at, want := range []int{1, 2, 1, 0} {
		if got := h.Parts(); got != want {
			t.Errorf("%d taken back: %d parts, want %d", at, got, want)
		}
		if f := h.Undo(); (f != api.Fault{}) != (at == 3) {
			t.Errorf("undo %d: %v", at, f)
		}
	}
}

func TestNodesAreNumberedAsTheyCame(t *testing.T) {
	h := houseOf(t, "node z, node a, node m2, node m10, edge m10 z, edge a m2, edge a z")
	wantTold(t, "four nodes", h, "4 [z a m2 m10] [[0 1] [0 3] [1 2]] [za zm2 am2 zm10 am10 m2m10] 1")
}

// A node that was taken back and comes again, comes behind those that came ahead of it.
func TestANodeComesAgain(t *testing.T) {
	h := houseOf(t, "node a, node b, undo, node c, node b, edge c b")
	wantTold(t, "b behind c", h, "3 [a c b] [[1 2]] [cb] 2")
	takeAll(t, h, "undo, undo, undo, undo, node b")
	wantTold(t, "b alone", h, "1 [b] [] [] 1")
}

func TestEdgesGoEitherWay(t *testing.T) {
	for _, text := range []string{"edge a b", "edge b a"} {
		for _, cut := range []string{"cut a b", "cut b a"} {
			h := houseOf(t, "node a, node b, "+text)
			wantTold(t, text, h, "2 [a b] [[0 1]] [ab] 1")
			wantFault(t, h, "edge a b", fault(api.ErrTwice, 0))
			wantFault(t, h, "edge b a", fault(api.ErrTwice, 0))
			takeAll(t, h, cut)
			wantTold(t, cut, h, "2 [a b] [] [] 2")
			wantFault(t, h, "cut a b", fault(api.ErrNone, 0))
			wantFault(t, h, "cut b a", fault(api.ErrNone, 0))
		}
	}
}

func TestAnEdgeComesAndGoesAgainAndAgain(t *testing.T) {
	h := houseOf(t, "node a, node b")
	for range 5 {
		takeAll(t, h, "edge a b")
		wantTold(t, "there", h, "2 [a b] [[0 1]] [ab] 1")
		takeAll(t, h, "cut b a")
		wantTold(t, "gone", h, "2 [a b] [] [] 2")
	}
	for range 5 {
		takeAll(t, h, "undo")
		wantTold(t, "there, taken back", h, "2 [a b] [[0 1]] [ab] 1")
		takeAll(t, h, "undo")
		wantTold(t, "gone, taken back", h, "2 [a b] [] [] 2")
	}
}

func TestJoinedByAWay(t *testing.T) {
	h := houseOf(t, "node a, node b, node c, node d, edge a b, edge b c")
	for _, x := range []struct {
		a, b string
		want bool
	}{
		{"a", "a", true}, {"d", "d", true}, {"a", "b", true}, {"a", "c", true}, {"c", "a", true}, {"a", "d", false}, {"d", "c", false},
	} {
		if got, f := h.Joined(x.a, x.b); got != x.want || f != (api.Fault{}) {
			t.Errorf("Joined %s %s: %v %v, want %v", x.a, x.b, got, f, x.want)
		}
	}
}

// A ring still hangs together without one of its edges, and no more without two.
func TestARingIsCut(t *testing.T) {
	h := houseOf(t, "node a, node b, node c, node d, edge a b, edge b c, edge c d, edge d a")
	takeAll(t, h, "cut a b")
	wantTold(t, "without an edge", h, "4 [a b c d] [[0 3] [1 2] [2 3]] [ab ac bc ad bd cd] 1")
	takeAll(t, h, "cut d c")
	wantTold(t, "without two", h, "4 [a b c d] [[0 3] [1 2]] [bc ad] 2")
	takeAll(t, h, "undo")
	wantTold(t, "one taken back", h, "4 [a b c d] [[0 3] [1 2] [2 3]] [ab ac bc ad bd cd] 1")
}

// What was asked ahead of a change is not told behind it, whatever the change is.
func TestAskedAheadOfAChangeAndBehindIt(t *testing.T) {
	h := houseOf(t, "node a, node b")
	for _, x := range []struct {
		text   string
		parts  int
		joined bool
	}{
		{"node c", 3, false}, {"edge a b", 2, true}, {"cut a b", 3, false}, {"undo", 2, true}, {"edge b c", 1, true},
		{"undo", 2, true}, {"undo", 3, false}, {"undo", 2, false}, {"edge b a", 1, true}, {"undo", 2, false},
	} {
		takeAll(t, h, x.text)
		for range 2 {
			if got := h.Parts(); got != x.parts {
				t.Errorf("Parts behind %s: %d, want %d", x.text, got, x.parts)
			}
			if got, f := h.Joined("a", "b"); got != x.joined || f != (api.Fault{}) {
				t.Errorf("Joined behind %s: %v %v, want %v", x.text, got, f, x.joined)
			}
		}
	}
}

// With a fault nothing has changed, so that Undo takes back what was done ahead of it; a call that only asks is no change, either.
func TestUndoPassesOverWhatChangedNothing(t *testing.T) {
	h := houseOf(t, "node a, node b, node c, edge a b")
	for _, text := range []string{"node a", "node 1", "edge a b", "edge a a", "edge a x", "edge x a", "cut a c", "cut x a", "cut a x", "cut b b", "joined a b", "joined a x"} {
		take(h, steps(text)[0])
	}
	takeAll(t, h, "undo")
	wantTold(t, "the edge", h, "3 [a b c] [] [] 3")
	wantFault(t, h, "cut a b", fault(api.ErrNone, 0))
	takeAll(t, h, "undo")
	wantTold(t, "c", h, "2 [a b] [] [] 2")
	wantFault(t, h, "edge a c", fault(api.ErrName, 1))
	takeAll(t, h, "undo, undo")
	for range 3 {
		wantFault(t, h, "undo", fault(api.ErrState, 0))
	}
	takeAll(t, h, "node a, undo")
	wantFault(t, h, "undo", fault(api.ErrState, 0))
}

// A change behind some that were taken back: these are gone for good.
func TestUndoBehindUndo(t *testing.T) {
	h := houseOf(t, "node a, node b, node c, edge a b, edge b c, cut a b, undo, undo, edge a c")
	wantTold(t, "ab and ac", h, "3 [a b c] [[0 1] [0 2]] [ab ac bc] 1")
	takeAll(t, h, "undo")
	wantTold(t, "ab", h, "3 [a b c] [[0 1]] [ab] 2")
	takeAll(t, h, "undo")
	wantTold(t, "none", h, "3 [a b c] [] [] 3")
	takeAll(t, h, "undo, undo, undo")
	wantFault(t, h, "undo", fault(api.ErrState, 0))
}
