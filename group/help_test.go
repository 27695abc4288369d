package group_test

import (
	"fmt"
	"math/big"
	"slices"
	"testing"

	"arbor/api"
	"arbor/group"
)

func fault(code, at int) api.Fault { return api.Fault{Code: code, At: at} }

// made has the number of each i below n as to says.
func made(n int, to func(i int) int) []int {
	p := make([]int, n)
	for i := range p {
		p[i] = to(i)
	}
	return p
}

func still(n int) []int { return made(n, func(i int) int { return i }) }

// rings takes each number of a ring to the next one, and leaves all others where they are.
func rings(n int, all ...[]int) []int {
	p := still(n)
	for _, ring := range all {
		for i, v := range ring {
			p[v] = ring[(i+1)%len(ring)]
		}
	}
	return p
}

// swaps has a permutation for each two numbers, which change their places.
func swaps(n int, l ...int) [][]int {
	var out [][]int
	for i := 0; i+1 < len(l); i += 2 {
		out = append(out, rings(n, l[i:i+2]))
	}
	return out
}

func turn(n int) []int { return made(n, func(i int) int { return (i + 1) % n }) }

func mirror(n int) []int { return made(n, func(i int) int { return n - 1 - i }) }

// then is p, and q done behind it.
func then(p, q []int) []int { return made(len(p), func(i int) int { return q[p[i]] }) }

// back takes back what p does.
func back(p []int) []int { return made(len(p), func(i int) int { return slices.Index(p, i) }) }

// often is p done so many times.
func often(p []int, times int) []int {
	out := still(len(p))
	for range times {
		out = then(out, p)
	}
	return out
}

// permutations has all of n.
func permutations(n int) [][]int {
	if n == 0 {
		return [][]int{{}}
	}
	var out [][]int
	for _, p := range permutations(n - 1) {
		for at := range n {
			out = append(out, slices.Insert(slices.Clone(p), at, n-1))
		}
	}
	return out
}

// drawFrom answers a function that draws numbers below some n, none of them chosen by hand; the same ones each time.
func drawFrom(seed int) func(n int) int {
	x := uint64(seed)*2654435761 + 12345
	return func(n int) int {
		x = x*6364136223846793005 + 1442695040888963407
		return int(x>>33) % n
	}
}

// deck has the numbers below n, in an order that next chooses.
func deck(n int, next func(n int) int) []int {
	l := still(n)
	for i := n - 1; i > 0; i-- {
		j := next(i + 1)
		l[i], l[j] = l[j], l[i]
	}
	return l
}

// decks has so many permutations of n.
func decks(n, many, seed int) [][]int {
	next := drawFrom(seed)
	var out [][]int
	for range many {
		out = append(out, deck(n, next))
	}
	return out
}

// loose has so many permutations of n, each of them a few swaps.
func loose(n, many, few, seed int) [][]int {
	next := drawFrom(seed)
	var out [][]int
	for range many {
		p := still(n)
		for range few {
			p = then(p, rings(n, []int{next(n), next(n)}))
		}
		out = append(out, p)
	}
	return out
}

// renamed has what the permutations do with i done with names[i].
func renamed(gens [][]int, names []int) [][]int {
	var out [][]int
	for _, g := range gens {
		out = append(out, then(then(back(names), g), names))
	}
	return out
}

// shuffled has other numbers, so that they say nothing of places.
func shuffled(gens [][]int, seed int) [][]int {
	if len(gens) == 0 {
		return nil
	}
	return renamed(gens, deck(len(gens[0]), drawFrom(seed)))
}

// wider has what the permutations do done with the numbers from one on, and n numbers in all.
func wider(gens [][]int, from, n int) [][]int {
	var out [][]int
	for _, g := range gens {
		out = append(out, made(n, func(i int) int {
			if i < from || i >= from+len(g) {
				return i
			}
			return from + g[i-from]
		}))
	}
	return out
}

// beside has what a does with the first numbers, and what b does with those behind them, each by itself.
func beside(n, m int, a, b [][]int) [][]int {
	return slices.Concat(wider(a, 0, n+m), wider(b, n, n+m))
}

// word is some of the permutations, or what takes them back, one done behind the other.
func word(n int, gens [][]int, length int, next func(n int) int) []int {
	p := still(n)
	for range length {
		if g := gens[next(len(gens))]; next(2) == 0 {
			p = then(p, g)
		} else {
			p = then(p, back(g))
		}
	}
	return p
}

func product(of ...int) *big.Int {
	out := big.NewInt(1)
	for _, x := range of {
		out.Mul(out, big.NewInt(int64(x)))
	}
	return out
}

func factorial(n int) *big.Int { return new(big.Int).MulRange(1, int64(n)) }

func power(x *big.Int, many int) *big.Int { return new(big.Int).Exp(x, big.NewInt(int64(many)), nil) }

func times(a, b *big.Int) *big.Int { return new(big.Int).Mul(a, b) }

func half(a *big.Int) *big.Int { return new(big.Int).Rsh(a, 1) }

func mustOrder(t *testing.T, n int, gens [][]int) string {
	t.Helper()
	s, f := group.Order(n, gens)
	if f != (api.Fault{}) {
		t.Errorf("Order of %d %v: fault %v", n, gens, f)
	}
	return s
}

// number is an order as a number.
func number(t *testing.T, n int, gens [][]int) *big.Int {
	t.Helper()
	many, ok := new(big.Int).SetString(mustOrder(t, n, gens), 10)
	if !ok {
		t.Fatalf("Order of %d %v is no number", n, gens)
	}
	return many
}

func wantOrder(t *testing.T, what string, n int, gens [][]int, want string) {
	t.Helper()
	if got := mustOrder(t, n, gens); got != want {
		t.Errorf("Order of %s: %s, want %s", what, got, want)
	}
}

func wantIn(t *testing.T, what string, n int, gens [][]int, p []int, want bool) {
	t.Helper()
	if in, f := group.In(n, gens, p); in != want || f != (api.Fault{}) {
		t.Errorf("In of %s, %v: %v %v, want %v", what, p, in, f, want)
	}
}

func wantOrbits(t *testing.T, what string, n int, gens [][]int, want [][]int) {
	t.Helper()
	got, f := group.Orbits(n, gens)
	if fmt.Sprint(got) != fmt.Sprint(want) || f != (api.Fault{}) {
		t.Errorf("Orbits of %s: %v %v, want %v", what, got, f, want)
	}
}

// answer is what any of the calls answers beside a fault.
type answer struct {
	order  string
	in     bool
	orbits [][]int
}

func (a answer) isEmpty() bool { return a.order == "" && !a.in && len(a.orbits) == 0 }

type call struct {
	name string
	ask  func(n int, gens [][]int, p []int) (answer, api.Fault)
}

func calls() []call {
	return []call{
		{"Order", func(n int, gens [][]int, _ []int) (a answer, f api.Fault) { a.order, f = group.Order(n, gens); return }},
		{"In", func(n int, gens [][]int, p []int) (a answer, f api.Fault) { a.in, f = group.In(n, gens, p); return }},
		{"Orbits", func(n int, gens [][]int, _ []int) (a answer, f api.Fault) {
			a.orbits, f = group.Orbits(n, gens)
			return
		}},
	}
}

// tellAll tells what all calls answer.
func tellAll(n int, gens [][]int, p []int) string {
	out := ""
	for _, c := range calls() {
		out += fmt.Sprint(c.ask(n, gens, p))
	}
	return out
}
