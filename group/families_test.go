package group_test

import (
	"math/big"
	"slices"
)

// family is a group of which it is known how many it has, and what is in it (has may be missing).
type family struct {
	name  string
	n     int
	gens  [][]int
	order *big.Int
	has   func(p []int) bool
}

// smallFamilies has groups of some ten to fifty numbers, greatFamilies those of about as many as may be.
func smallFamilies() []family {
	return slices.Concat(plainFamilies(12), productFamilies(12), []family{
		blocks(3, 4), blocks(5, 2), sylow(4), sylow(5), primeRings(2, 3, 5, 7), affine(11), affine(13), linear(3), linear(4), moved(3), moved(4),
		pairsOf(5), pairsOf(6), pairsOf(7), triplesOf(7), cube(3), cube(4), rooks(3), rooks(5),
	}, strangeFamilies())
}

func greatFamilies() []family {
	return slices.Concat(plainFamilies(100), productFamilies(100), []family{
		blocks(10, 10), blocks(50, 2), blocks(2, 50), blocks(4, 25), sylow(6), primeRings(2, 3, 5, 7, 11, 13, 17, 19, 23), affine(97), linear(6), moved(6),
		pairsOf(14), triplesOf(9), cube(6), rooks(10), bent(97, false), bent(97, true), bent(89, false), bent(83, true),
	})
}

func isStill(p []int) bool { return slices.Equal(p, still(len(p))) }

func isTurn(p []int) bool {
	return slices.Equal(p, made(len(p), func(i int) int { return (i + p[0]) % len(p) }))
}

// plainFamilies has all permutations, the even ones, and those that keep a ring.
func plainFamilies(n int) []family {
	everything := func([]int) bool { return true }
	var chain, star, growing, threes [][]int
	for i := 1; i < n; i++ {
		chain = append(chain, rings(n, []int{i - 1, i}))
		star = append(star, rings(n, []int{0, i}))
		growing = append(growing, rings(n, still(i+1)))
		if i > 1 {
			threes = append(threes, rings(n, []int{0, 1, i}))
		}
	}
	return []family{
		{"none", n, nil, product(), isStill},
		{"the one that moves nothing", n, slices.Repeat([][]int{still(n)}, 100), product(), isStill},
		{"a swap", n, swaps(n, n-2, n-1), product(2), func(p []int) bool { return isStill(p) || slices.Equal(p, swaps(n, n-2, n-1)[0]) }},
		{"a turn", n, [][]int{turn(n)}, product(n), isTurn},
		{"the same turn again and again", n, slices.Repeat([][]int{turn(n)}, 100), product(n), isTurn},
		{"a turn and a mirror", n, [][]int{turn(n), mirror(n)}, product(2, n), func(p []int) bool { return isTurn(p) || isTurn(then(p, mirror(n))) }},
		{"a turn and a swap", n, [][]int{turn(n), rings(n, []int{0, 1})}, factorial(n), everything},
		{"swaps in a chain", n, chain, factorial(n), everything},
		{"swaps in a star", n, star, factorial(n), everything},
		{"rings that grow", n, growing, factorial(n), everything},
		{"rings of three", n, threes, half(factorial(n)), isEven},
	}
}

// productFamilies has groups of several parts, which go by themselves, or all alike, or something between.
func productFamilies(n int) []family {
	m := n / 2
	var flips, alike, signs [][]int
	for i := range m {
		flips = append(flips, rings(n, []int{2 * i, 2*i + 1}))
	}
	for i := range m - 1 {
		alike = append(alike, rings(n, []int{i, i + 1}, []int{m + i, m + i + 1}))
	}
	for i := range m - 2 {
		signs = append(signs, rings(n, []int{0, 1, i + 2}), rings(n, []int{m, m + 1, m + i + 2}))
	}
	signs = append(signs, rings(n, []int{0, 1}, []int{m, m + 1}))
	keeps := func(p []int, at int) bool { return slices.Max(p[:at]) < at }
	lower := func(p []int) []int { return p[:m] }
	upper := func(p []int) []int { return made(m, func(i int) int { return p[m+i] - m }) }
	third := n / 3
	return []family{
		{"flips", n, flips, power(product(2), m), func(p []int) bool {
			return slices.Equal(made(n, func(i int) int { return p[i] / 2 }), made(n, func(i int) int { return i / 2 }))
		}},
		{"two parts", n, beside(third, n-third, [][]int{turn(third), swaps(third, 0, 1)[0]}, [][]int{turn(n - third), swaps(n-third, 0, 1)[0]}), times(factorial(third), factorial(n-third)), func(p []int) bool { return keeps(p, third) }},
		{"two parts alike", n, alike, factorial(m), func(p []int) bool { return keeps(p, m) && slices.Equal(lower(p), upper(p)) }},
		{"two parts, both even or both odd", n, signs, half(times(factorial(m), factorial(m))), func(p []int) bool { return keeps(p, m) && isEven(lower(p)) == isEven(upper(p)) }},
	}
}

// keepers are the permutations that keep what is asked of each two numbers.
func keepers(n int, ask func(i, j int) int) func(p []int) bool {
	return func(p []int) bool {
		for i := range n {
			for j := range i {
				if ask(i, j) != ask(p[i], p[j]) {
					return false
				}
			}
		}
		return true
	}
}

// blocks has so many blocks of so many numbers: each may be mixed, and they may change places.
func blocks(many, size int) family {
	n := many * size
	inside := wider([][]int{turn(size), rings(size, []int{0, 1})}, 0, n)
	across := func(to func(block int) int) []int {
		return made(n, func(i int) int { return to(i/size)*size + i%size })
	}
	first := rings(many, []int{0, 1})
	gens := append(inside, across(func(b int) int { return (b + 1) % many }), across(func(b int) int { return first[b] }))
	order := times(power(factorial(size), many), factorial(many))
	return family{"blocks", n, gens, order, keepers(n, func(i, j int) int {
		if i/size == j/size {
			return 1
		}
		return 0
	})}
}

// sylow has halves that change places, in each half so, and so on: that keeps how many halves two numbers are in together.
func sylow(bits int) family {
	n := 1 << bits
	var gens [][]int
	for b := range bits {
		gens = append(gens, made(n, func(i int) int {
			if i < 2<<b {
				return i ^ 1<<b
			}
			return i
		}))
	}
	return family{"halves in halves", n, gens, power(product(2), n-1), keepers(n, func(i, j int) int {
		length := 0
		for d := i ^ j; d > 0; d >>= 1 {
			length++
		}
		return length
	})}
}

// primeRings turns rings of so many numbers, all at a time: done often enough it turns one alone.
func primeRings(sizes ...int) family {
	n := 0
	var all [][]int
	for _, size := range sizes {
		all = append(all, made(size, func(i int) int { return n + i }))
		n += size
	}
	return family{"rings at a time", n, [][]int{rings(n, all...)}, product(sizes...), func(p []int) bool {
		for _, ring := range all {
			by := p[ring[0]] - ring[0]
			for i, v := range ring {
				if by < 0 || by >= len(ring) || p[v] != ring[(i+by)%len(ring)] {
					return false
				}
			}
		}
		return true
	}}
}

// root is a number whose powers are all but 0 below a prime.
func root(prime int) int {
	for r := 2; ; r++ {
		x, many := r, 1
		for ; x != 1; many++ {
			x = x * r % prime
		}
		if many == prime-1 {
			return r
		}
	}
}

// affine has all i -> a i + b, below a prime.
func affine(n int) family {
	r := root(n)
	gens := [][]int{turn(n), made(n, func(i int) int { return i * r % n })}
	return family{"lines below a prime", n, gens, product(n, n-1), func(p []int) bool {
		a := p[1] - p[0] + n
		return slices.Equal(p, made(n, func(i int) int { return (a*i + p[0]) % n }))
	}}
}

// bent has all i -> (a i + b) / (c i + d), below a prime and at infinity, or those whose a d - b c is a square.
func bent(prime int, squares bool) family {
	n := prime + 1
	by := root(prime)
	order := product(prime+1, prime, prime-1)
	if squares {
		by, order = by*by%prime, half(order)
	}
	line := made(n, func(i int) int { return (i + 1) % prime })
	stretched := made(n, func(i int) int { return i * by % prime })
	line[prime], stretched[prime] = prime, prime
	turned := made(n, func(i int) int { // -1 / i
		for j := range prime {
			if i*j%prime == prime-1 {
				return j
			}
		}
		return prime - i // 0 to infinity
	})
	turned[prime] = 0
	return family{"bent lines below a prime", n, [][]int{line, stretched, turned}, order, nil}
}

func isLinear(p []int) bool {
	for a := range p {
		for b := range a {
			if p[a^b] != p[a]^p[b] {
				return false
			}
		}
	}
	return true
}

// linear has what keeps sums of bits.
func linear(bits int) family {
	n := 1 << bits
	var gens [][]int
	order := big.NewInt(1)
	for i := range bits {
		order = times(order, product(n-1<<i))
		for j := range bits {
			if i != j {
				gens = append(gens, made(n, func(v int) int { return v ^ v>>i&1<<j }))
			}
		}
	}
	return family{"sums of bits", n, gens, order, isLinear}
}

// moved has what keeps sums of bits, but that some bits may be turned at last.
func moved(bits int) family {
	f := linear(bits)
	f.gens = append(f.gens, made(f.n, func(v int) int { return v ^ 1 }))
	f.order = times(f.order, product(f.n))
	f.has = func(p []int) bool { return isLinear(made(len(p), func(v int) int { return p[v] ^ p[0] })) }
	return f
}

// setsOf has the sets of so many of m numbers.
func setsOf(m, size int) [][]int {
	if size == 0 {
		return [][]int{{}}
	}
	var out [][]int
	for last := range m {
		for _, set := range setsOf(last, size-1) {
			out = append(out, append(set, last))
		}
	}
	return out
}

// onSets has what permutations of m do with sets.
func onSets(gens, sets [][]int) [][]int {
	var out [][]int
	for _, g := range gens {
		out = append(out, made(len(sets), func(i int) int {
			var to []int
			for _, v := range sets[i] {
				to = append(to, g[v])
			}
			slices.Sort(to)
			return slices.IndexFunc(sets, func(set []int) bool { return slices.Equal(set, to) })
		}))
	}
	return out
}

func together(a, b []int) int {
	many := 0
	for _, v := range a {
		if slices.Contains(b, v) {
			many++
		}
	}
	return many
}

// allOn has what all permutations of m do with its sets of some size: that keeps how many two sets have together.
func allOn(name string, m, size int) family {
	sets := setsOf(m, size)
	n := len(sets)
	gens := onSets([][]int{turn(m), rings(m, []int{0, 1})}, sets)
	return family{name, n, gens, factorial(m), keepers(n, func(i, j int) int { return together(sets[i], sets[j]) })}
}

func pairsOf(m int) family { return allOn("pairs", m, 2) }

func triplesOf(m int) family { return allOn("triples", m, 3) }

// cube has what keeps in how many bits two numbers differ.
func cube(bits int) family {
	n := 1 << bits
	gens := [][]int{made(n, func(v int) int { return v ^ 1 })}
	for b := range bits - 1 {
		gens = append(gens, made(n, func(v int) int {
			differ := (v>>b ^ v>>(b+1)) & 1
			return v ^ differ<<b ^ differ<<(b+1)
		}))
	}
	return family{"a cube", n, gens, times(product(n), factorial(bits)), keepers(n, func(i, j int) int {
		many := 0
		for d := i ^ j; d > 0; d &= d - 1 {
			many++
		}
		return many
	})}
}

// rooks has what keeps which fields of a board are in one row or column.
func rooks(m int) family {
	n := m * m
	swap := rings(m, []int{0, 1})
	gens := [][]int{
		made(n, func(i int) int { return i/m*m + (i+1)%m }),
		made(n, func(i int) int { return i/m*m + swap[i%m] }),
		made(n, func(i int) int { return i%m*m + i/m }),
	}
	return family{"a board", n, gens, times(product(2), times(factorial(m), factorial(m))), keepers(n, func(i, j int) int {
		if i/m == j/m || i%m == j%m {
			return 1
		}
		return 0
	})}
}

// strangeFamilies has Mathieu's groups, and the turns of Rubik's cube.
func strangeFamilies() []family {
	eleven := [][]int{rings(11, still(11)), rings(11, []int{2, 6, 10, 7}, []int{3, 9, 4, 5})}
	twelve := append(wider(eleven, 0, 12), rings(12, []int{0, 11}, []int{1, 10}, []int{2, 5}, []int{3, 7}, []int{4, 8}, []int{6, 9}))
	few := rings(23, []int{2, 16, 9, 6, 8}, []int{3, 12, 13, 18, 4}, []int{7, 17, 10, 11, 22}, []int{14, 19, 21, 20, 15})
	more := [][]int{turn(23), few}
	flip := rings(24, []int{0, 23}, []int{1, 22}, []int{2, 11}, []int{3, 15}, []int{4, 17}, []int{5, 9}, []int{6, 19}, []int{7, 13}, []int{8, 20}, []int{10, 16}, []int{12, 21}, []int{14, 18})
	corners, edges := times(factorial(8), power(product(3), 7)), times(factorial(12), power(product(2), 11))
	return []family{
		{"Mathieu's of 11", 11, eleven, big.NewInt(7920), nil},
		{"Mathieu's of 12", 12, twelve, big.NewInt(95040), nil},
		{"Mathieu's of 23", 23, more, big.NewInt(10200960), nil},
		{"Mathieu's of 24", 24, append(wider(more, 0, 24), flip), big.NewInt(244823040), nil},
		{"Rubik's", 48, rubik(), times(corners, half(edges)), nil},
	}
}

// rubik has the turns of the six sides, the fields numbered side by side.
func rubik() [][]int {
	one := func(l ...[]int) []int {
		for _, ring := range l {
			for i := range ring {
				ring[i]--
			}
		}
		return rings(48, l...)
	}
	return [][]int{
		one([]int{1, 3, 8, 6}, []int{2, 5, 7, 4}, []int{9, 33, 25, 17}, []int{10, 34, 26, 18}, []int{11, 35, 27, 19}),
		one([]int{9, 11, 16, 14}, []int{10, 13, 15, 12}, []int{1, 17, 41, 40}, []int{4, 20, 44, 37}, []int{6, 22, 46, 35}),
		one([]int{17, 19, 24, 22}, []int{18, 21, 23, 20}, []int{6, 25, 43, 16}, []int{7, 28, 42, 13}, []int{8, 30, 41, 11}),
		one([]int{25, 27, 32, 30}, []int{26, 29, 31, 28}, []int{3, 38, 43, 19}, []int{5, 36, 45, 21}, []int{8, 33, 48, 24}),
		one([]int{33, 35, 40, 38}, []int{34, 37, 39, 36}, []int{3, 9, 46, 32}, []int{2, 12, 47, 29}, []int{1, 14, 48, 27}),
		one([]int{41, 43, 48, 46}, []int{42, 45, 47, 44}, []int{14, 22, 30, 38}, []int{15, 23, 31, 39}, []int{16, 24, 32, 40}),
	}
}
