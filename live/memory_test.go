package live_test

import (
	"fmt"
	"slices"
	"strings"
	"sync"
	"testing"
	"unsafe"

	"arbor/api"
	"arbor/live"
)

// spoil writes over all memory of a list, also behind its length.
func spoil[T any](l []T, odd T) {
	for i := range l[:cap(l)] {
		l[:cap(l)][i] = odd
	}
}

// What Graph answers is new each time: it keeps what it was, whatever the house does, and the house is not changed through it.
func TestGraphAnswersNewMemory(t *testing.T) {
	for seed := range 50 {
		h := mixedHouse(seed + 3000)
		was := tell(h)
		g, names := h.Graph()
		second, others := h.Graph()
		told := fmt.Sprint(second, others)
		spoil(g.Edges, [2]int{-7, -7})
		spoil(names, "odd")
		if is := fmt.Sprint(second, others); is != told {
			t.Fatalf("two answers share memory: %s, then %s", told, is)
		}
		wantTold(t, "an answer written over", h, was)
		for _, text := range []string{"node fresh", "node other", "edge fresh other", "cut other fresh", "undo", "undo", "undo", "node last"} {
			takeAll(t, h, text)
		}
		for h.Undo() == (api.Fault{}) {
		}
		if is := fmt.Sprint(second, others); is != told {
			t.Fatalf("an answer changed with the house: %s, then %s", told, is)
		}
	}
}

// An answer that is written over does not come back by Undo, nor behind it.
func TestUndoIsNotToldFromAnswers(t *testing.T) {
	h := houseOf(t, "node a, node b, node c, edge a b, edge b c")
	for range 3 {
		g, names := h.Graph()
		spoil(g.Edges, [2]int{0, 2})
		spoil(names, "x")
		takeAll(t, h, "cut a b")
		g, names = h.Graph()
		spoil(g.Edges, [2]int{0, 2})
		spoil(names, "y")
		takeAll(t, h, "undo")
		wantTold(t, "taken back", h, "3 [a b c] [[0 1] [1 2]] [ab ac bc] 1")
	}
}

// Asking, however often, changes nothing, and what was not asked is told as well.
func TestAskingIsNoChange(t *testing.T) {
	for seed := range 100 {
		draw, same := drawFrom(seed), drawFrom(seed)
		often, seldom := live.New(), live.New()
		for range 200 {
			s := drawStep(draw, manyNames(8), 25)
			one, other := take(often, s), take(seldom, drawStep(same, manyNames(8), 25))
			if one != other {
				t.Fatalf("house %d, %v: %v when asked often, else %v", seed, s, one, other)
			}
			tell(often)
			tell(often)
		}
		wantTold(t, "asked often", often, tell(seldom))
	}
}

// Houses do not know of one another.
func TestHousesAreApart(t *testing.T) {
	one, other := live.New(), live.New()
	takeAll(t, one, "node a, node b, edge a b")
	wantTold(t, "the other house", other, "0 [] [] [] 0")
	wantFault(t, other, "undo", fault(api.ErrState, 0))
	takeAll(t, other, "node b, node a, node c, edge c a")
	wantTold(t, "the one house", one, "2 [a b] [[0 1]] [ab] 1")
	takeAll(t, one, "undo, undo, undo")
	wantFault(t, one, "undo", fault(api.ErrState, 0))
	wantTold(t, "the other house", other, "3 [b a c] [[1 2]] [ac] 2")
}

// Houses side by side, one goroutine each, tell the same as one behind the other.
func TestHousesSideBySide(t *testing.T) {
	const many = 40
	var want, got [many]string
	for i := range many {
		want[i] = tell(mixedHouse(i + 5000))
	}
	var all sync.WaitGroup
	for i := range many {
		all.Go(func() { got[i] = tell(mixedHouse(i + 5000)) })
	}
	all.Wait()
	for i := range many {
		if got[i] != want[i] {
			t.Errorf("house %d: %s side by side, else %s", i, got[i], want[i])
		}
	}
}

// One house, used by one goroutine behind the other.
func TestOneGoroutineAtATime(t *testing.T) {
	h := live.New()
	for i := range 20 {
		var one sync.WaitGroup
		one.Go(func() {
			h.Node(named(i))
			h.Edge(named(i), named(i/2))
		})
		one.Wait()
		if got := h.Parts(); got != 1 {
			t.Errorf("%d nodes: %d parts, want 1", i+1, got)
		}
	}
}

// Whatever the names are, no call panics, and with a fault nothing else is told.
func TestNoCallPanics(t *testing.T) {
	wild := []string{"", "a", "b", "c", "A", "1", "a b", "\x00", "\xff\xfe", "ä", "�", " ", "a\n", strings.Repeat("a", 20), strings.Repeat("a", 21), strings.Repeat("x", 1<<20), strings.Repeat("\xf0", 20), "[a]", "-1", "n0"}
	full := greatest(t)
	for _, h := range []*live.House{live.New(), houseOf(t, "node a, node b"), houseOf(t, "node a, undo"), full} {
		for _, a := range wild {
			h.Node(a)
			for _, b := range wild {
				h.Edge(a, b)
				if is, f := h.Joined(a, b); is && f != (api.Fault{}) {
					t.Errorf("Joined %q %q: true beside %v", a, b, f)
				}
				h.Cut(b, a)
				h.Edge(b, a)
			}
			h.Undo()
		}
		for h.Undo() == (api.Fault{}) {
			if h.Parts() < 0 {
				t.Error("fewer parts than none")
			}
		}
		wantTold(t, "all taken back", h, "0 [] [] [] 0")
	}
}

// A name is the house's own: it does not keep the text that it was cut out of.
func TestNamesAreTheHousesOwn(t *testing.T) {
	h := live.New()
	given := strings.Fields("alpha beta gamma")
	for _, name := range given {
		h.Node(name)
	}
	_, names := h.Graph()
	if !slices.Equal(names, given) {
		t.Fatalf("the names are %q", names)
	}
	for i := range names {
		if unsafe.StringData(names[i]) == unsafe.StringData(given[i]) {
			t.Errorf("%s is in the memory that was handed in", names[i])
		}
	}
}
