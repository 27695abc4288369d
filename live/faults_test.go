package live_test

import (
	"strings"
	"testing"

	"arbor/api"
	"arbor/live"
)

// goodNames has names at the edges of what a name may be.
func goodNames() []string {
	good := []string{"a", "z", "a0", "z9", "node", "x1y2", "abcdefghijklmnopqrst", "a0123456789012345678", strings.Repeat("z", 20)}
	for c := 'a'; c <= 'z'; c++ {
		good = append(good, string(c)+string(c), "q"+string(c))
	}
	for c := '0'; c <= '9'; c++ {
		good = append(good, "a"+string(c)+"a", "q"+string(c))
	}
	return good
}

// badNames has what is none: by its length, by its first byte, or by another one.
func badNames() []string {
	bad := []string{"", "0", "9a", "A", "aA", " ", " a", "a ", "a b", "a\n", "\n", "a\x00", "\x00", "ä", "aä", "é1", "a\xff", "\xe4", "ａ", "a１", "٣", "a٣", "ſ", "K", "a-b", "_", "a_b", "a.b", "ß", "0x", "``", "a{", "a/", "a:"}
	for many := 21; many < 60; many++ {
		bad = append(bad, strings.Repeat("a", many))
	}
	return append(bad, strings.Repeat("a", 1<<16), strings.Repeat("a", 19)+"ä", strings.Repeat("a", 19)+"B", strings.Repeat("1", 20), strings.Repeat("a", 276), strings.Repeat("a", 257))
}

func TestNames(t *testing.T) {
	for _, name := range goodNames() {
		h := live.New()
		if f := h.Node(name); f != (api.Fault{}) {
			t.Errorf("Node %q: %v, want none", name, f)
		}
		if _, names := h.Graph(); len(names) != 1 || names[0] != name {
			t.Errorf("Node %q: the names are %q", name, names)
		}
		if f := h.Node(name); f != fault(api.ErrTwice, 0) {
			t.Errorf("Node %q again: %v, want ErrTwice", name, f)
		}
	}
	for _, name := range badNames() {
		h := live.New()
		if f := h.Node(name); f != fault(api.ErrName, 0) {
			t.Errorf("Node %q: %v, want ErrName", name, f)
		}
		wantTold(t, "no name", h, "0 [] [] [] 0")
	}
}

// Each byte, at each place of a name.
func TestEachByteOfAName(t *testing.T) {
	for c := range 256 {
		letter := 'a' <= c && c <= 'z'
		for length := 1; length <= 21; length++ {
			for at := range length {
				name := []byte(strings.Repeat("k", length))
				name[at] = byte(c)
				ok := length <= 20 && (letter || at > 0 && '0' <= c && c <= '9')
				want := api.Fault{}
				if !ok {
					want = fault(api.ErrName, 0)
				}
				if f := live.New().Node(string(name)); f != want {
					t.Fatalf("Node %q: %v, want %v", name, f, want)
				}
			}
		}
	}
}

func TestFaultsOfNodeInTheirOrder(t *testing.T) {
	h := live.New()
	nodes(t, h, api.MaxNodes-1)
	wantFault(t, h, "node N", fault(api.ErrName, 0))
	wantFault(t, h, "node n0", fault(api.ErrTwice, 0))
	takeAll(t, h, "node last")
	wantFault(t, h, "node N", fault(api.ErrName, 0))
	wantFault(t, h, "node n0", fault(api.ErrTwice, 0))
	wantFault(t, h, "node last", fault(api.ErrTwice, 0))
	wantFault(t, h, "node more", fault(api.ErrMany, 0))
	takeAll(t, h, "undo, node more")
	wantFault(t, h, "node last", fault(api.ErrMany, 0))
	wantFault(t, h, "node more", fault(api.ErrTwice, 0))
	if g, names := h.Graph(); g.N != api.MaxNodes || len(names) != g.N || names[g.N-1] != "more" || h.Parts() != g.N {
		t.Errorf("as many nodes as may be: %d, %q, %d parts", g.N, names, h.Parts())
	}
}

// unknownNames has calls of two names of which one is no node's, or both are not, of a house with a and b.
func unknownNames() map[string]api.Fault {
	first, second := fault(api.ErrName, 0), fault(api.ErrName, 1)
	return map[string]api.Fault{"x a": first, "a x": second, "x x": first, "x y": first, "A a": first, "a A": second, "1 2": first, "b 1": second, "a aa": second, "ab b": first, "b b1": second}
}

func TestUnknownNames(t *testing.T) {
	for _, state := range []string{"node a, node b", "node a, node b, edge a b", "node a, node b, node x, undo"} {
		h := houseOf(t, state)
		for names, want := range unknownNames() {
			for _, call := range []string{"edge ", "cut ", "joined "} {
				wantFault(t, h, call+names, want)
			}
			l := strings.Fields(names)
			if is, f := h.Joined(l[0], l[1]); is || f != want {
				t.Errorf("Joined %s: %v %v, want false and %v", names, is, f, want)
			}
		}
		for _, ask := range []func(a, b string) api.Fault{h.Edge, h.Cut} {
			if f := ask("", "a"); f != fault(api.ErrName, 0) {
				t.Errorf("no name, then a: %v", f)
			}
			if f := ask("a", ""); f != fault(api.ErrName, 1) {
				t.Errorf("a, then no name: %v", f)
			}
		}
	}
	for _, call := range []string{"edge a b", "edge a a", "cut a b", "cut a a", "joined a b", "joined a a"} {
		wantFault(t, live.New(), call, fault(api.ErrName, 0))
	}
}

func TestFaultsOfEdgeInTheirOrder(t *testing.T) {
	h := houseOf(t, "node a, node b, edge a b")
	wantFault(t, h, "edge a a", fault(api.ErrLoop, 0))
	wantFault(t, h, "edge b b", fault(api.ErrLoop, 0))
	wantFault(t, h, "edge b a", fault(api.ErrTwice, 0))
	h = live.New()
	nodes(t, h, api.MaxNodes)
	edges(t, h, pairs(api.MaxEdges-1))
	takeAll(t, h, "edge n99 n98")
	wantFault(t, h, "edge x n0", fault(api.ErrName, 0))
	wantFault(t, h, "edge n0 x", fault(api.ErrName, 1))
	wantFault(t, h, "edge n0 n0", fault(api.ErrLoop, 0))
	wantFault(t, h, "edge n99 n99", fault(api.ErrLoop, 0))
	wantFault(t, h, "edge n1 n0", fault(api.ErrTwice, 0))
	wantFault(t, h, "edge n98 n99", fault(api.ErrTwice, 0))
	wantFault(t, h, "edge n99 n97", fault(api.ErrMany, 0))
	wantFault(t, h, "edge n97 n99", fault(api.ErrMany, 0))
	takeAll(t, h, "undo, edge n97 n99")
	wantFault(t, h, "edge n98 n99", fault(api.ErrMany, 0))
}

func TestFaultsOfCutInTheirOrder(t *testing.T) {
	h := houseOf(t, "node a, node b, node c, edge a b, edge b c")
	wantFault(t, h, "cut a c", fault(api.ErrNone, 0))
	wantFault(t, h, "cut c a", fault(api.ErrNone, 0))
	wantFault(t, h, "cut a a", fault(api.ErrNone, 0))
	wantFault(t, h, "cut x x", fault(api.ErrName, 0))
	wantFault(t, h, "cut a x", fault(api.ErrName, 1))
	takeAll(t, h, "cut a b")
	wantFault(t, h, "cut a b", fault(api.ErrNone, 0))
	takeAll(t, h, "undo, cut b a, undo, undo")
	wantFault(t, h, "cut b c", fault(api.ErrNone, 0))
}

// As many edges as may be, one of them cut, another one in its place, and both taken back.
func TestUndoAtTheLimits(t *testing.T) {
	h := greatest(t)
	was := tell(h)
	takeAll(t, h, "cut n1 n0, edge n99 n0")
	wantFault(t, h, "edge n0 n1", fault(api.ErrMany, 0))
	takeAll(t, h, "undo, undo")
	wantTold(t, "both taken back", h, was)
	for range api.MaxEdges + api.MaxNodes {
		takeAll(t, h, "undo")
	}
	wantTold(t, "all taken back", h, "0 [] [] [] 0")
	wantFault(t, h, "undo", fault(api.ErrState, 0))
}
