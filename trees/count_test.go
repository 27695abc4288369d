package trees_test

import (
	"fmt"
	"math/big"
	"testing"

	"arbor/api"
	"arbor/trees"
)

// power is base^exponent.
func power(base, exponent int) *big.Int {
	return new(big.Int).Exp(big.NewInt(int64(base)), big.NewInt(int64(exponent)), nil)
}

// wheel is a ring of n nodes, and a node that has an edge with each of them.
func wheel(n int) api.Graph {
	g := ring(n)
	g.N++
	for v := range n {
		g.Edges = append(g.Edges, [2]int{v, n})
	}
	return g
}

// chain has so many graphs, each with an edge to the next one.
func chain(times int, g api.Graph) api.Graph {
	out := g
	for range times - 1 {
		out = with(beside(out, g), out.N-1, out.N)
	}
	return out
}

func TestCountByHand(t *testing.T) {
	for _, x := range []struct {
		name string
		g    api.Graph
		want string
	}{
		{"nothing", of(0), "1"},
		{"a node", of(1), "1"},
		{"two nodes", of(2), "0"},
		{"an edge", of(2, 1, 0), "1"},
		{"an edge and a node", of(3, 0, 1), "0"},
		{"a node and an edge", of(3, 1, 2), "0"},
		{"the first node alone", beside(of(1), full(5)), "0"},
		{"the last node alone", beside(full(5), of(1)), "0"},
		{"two parts", beside(ring(3), ring(3)), "0"},
		{"a path", path(5), "1"},
		{"a ring of four", ring(4), "4"},
		{"two triangles at a node", of(5, 0, 1, 1, 2, 2, 0, 2, 3, 3, 4, 4, 2), "9"},
		{"two triangles and a bridge", chain(2, ring(3)), "9"},
		{"a ring with a chord", with(ring(4), 0, 2), "8"},
		{"Petersen's graph", petersen(), "2000"},
		{"two sides of three", twoSides(3, 3), "81"},
		{"a cube", of(8, 0, 1, 1, 2, 2, 3, 3, 0, 4, 5, 5, 6, 6, 7, 7, 4, 0, 4, 1, 5, 2, 6, 3, 7), "384"},
		{"a grid", grid(3, 3), "192"},
		{"a greater grid", grid(4, 4), "100352"},
		{"a grid of 36", grid(6, 6), "32565539635200"},
		{"a grid of 49", grid(7, 7), "19872369301840986112"},
	} {
		for _, g := range []api.Graph{x.g, scrambled(x.g)} {
			text, f := trees.Count(g)
			same(t, "Count, "+x.name, text, x.want, f)
		}
	}
}

func TestCountOfFamilies(t *testing.T) {
	for n := 2; n <= 45; n++ {
		text, f := trees.Count(full(n))
		same(t, fmt.Sprint("Count of all edges, ", n), text, power(n, n-2), f)
	}
	for _, x := range [][2]int{{1, 1}, {1, 99}, {2, 3}, {7, 4}, {10, 90}, {20, 50}, {25, 40}} {
		a, b := x[0], x[1]
		text, f := trees.Count(twoSides(a, b))
		same(t, fmt.Sprint("Count of two sides, ", x), text, new(big.Int).Mul(power(a, b-1), power(b, a-1)), f)
	}
	// Lucas's numbers are 2, 1, 3, 4, 7, ..: a wheel has the one at twice its ring's nodes, less 2
	one, next := big.NewInt(2), big.NewInt(1)
	for i := 0; i < 2*(api.MaxNodes-1); i++ {
		one, next = next, new(big.Int).Add(one, next)
		if n := (i + 1) / 2; i%2 == 1 && n >= 3 {
			text, f := trees.Count(wheel(n))
			same(t, fmt.Sprint("Count of a wheel, ", n), text, new(big.Int).Sub(one, big.NewInt(2)), f)
		}
	}
	for _, x := range []struct {
		name string
		g    api.Graph
		want *big.Int
	}{
		{"a path of MaxNodes", path(api.MaxNodes), power(1, 1)},
		{"a ring of MaxNodes", ring(api.MaxNodes), power(api.MaxNodes, 1)},
		{"a star of MaxNodes", turned(star(api.MaxNodes), 37), power(1, 1)},
		{"MaxNodes alone", of(api.MaxNodes), power(0, 1)},
		{"triangles", chain(33, ring(3)), power(3, 33)},
		{"all edges of ten, ten times", chain(10, full(10)), power(10, 80)},
		{"a part alone", beside(full(44), ring(3)), power(0, 1)},
	} {
		text, f := trees.Count(x.g)
		same(t, "Count, "+x.name, text, x.want, f)
	}
}

func TestCount(t *testing.T) {
	for _, g := range small(5) {
		if g.N > 0 {
			text, f := trees.Count(scrambled(g))
			same(t, fmt.Sprint("Count of ", g), text, countBySets(g), f)
		}
	}
	for _, g := range append(medium(), great()...) {
		text, f := trees.Count(g)
		number, ok := new(big.Int).SetString(text, 10)
		if !ok || number.String() != text || number.Sign() < 0 || f != (api.Fault{}) {
			t.Fatalf("Count of %v: %q %v", g, text, f)
		}
		for _, prime := range []int{1000000007, 998244353, 1000000009, 2147483647, 7, 3} {
			rest := new(big.Int).Mod(number, big.NewInt(int64(prime)))
			same(t, fmt.Sprint("Count of ", g, " modulo ", prime), rest, countModulo(g, prime), f)
		}
	}
}
