package group

import (
	"math/big"
	"slices"
)

// A group is kept as Sims has shown, and filled as Knuth has: as a chain of groups, one in the other. Level k has the group of those by which the numbers below k stay where they are; each of these is one of the next level's, and one of the level's ways done behind it.
type chain []level

// level has permutations of which its group is made, and for each number to which they take the level's own one a way there.
type level struct {
	gens  [][]int
	found []int // the numbers that have ways, in the order in which they were found
	ways  map[int]way
}

// way is a permutation, and the one that takes all back.
type way struct {
	there, back []int
}

// chainOf answers the chain of the group of gens.
func chainOf(n int, gens [][]int) chain {
	c := make(chain, n)
	for k := range c {
		stay := inOrder(n)
		c[k] = level{found: []int{k}, ways: map[int]way{k: {stay, stay}}}
	}
	for _, g := range gens {
		c.fill(0, g)
	}
	return c
}

// fill takes p, by which the numbers below k stay, into the group of level k.
func (c chain) fill(k int, p []int) {
	if c.has(k, p) {
		return
	}
	l := &c[k]
	l.gens = append(l.gens, p)
	// the numbers found up to now have been followed by all but the new one
	known := len(l.found)
	for i := 0; i < len(l.found); i++ {
		gens := l.gens
		if i < known {
			gens = gens[len(gens)-1:]
		}
		for _, g := range gens {
			c.follow(k, l.found[i], g)
		}
	}
}

// follow goes the way of level k to a number, and on by g: so a new number is found, or, back by its own way, one of the next level's group. By Schreier's lemma all of that group come of these.
func (c chain) follow(k, number int, g []int) {
	l := &c[k]
	there, to := l.ways[number].there, g[number]
	if w, ok := l.ways[to]; ok {
		c.fill(k+1, inTurn(there, g, w.back))
		return
	}
	there = inTurn(there, g)
	l.ways[to] = way{there, inverse(there)}
	l.found = append(l.found, to)
}

// has tells whether p, by which the numbers below k stay, is in the group of level k: from level to level a way leads back, until nothing moves.
func (c chain) has(k int, p []int) bool {
	rest := slices.Clone(p)
	for ; k < len(c); k++ {
		if rest[k] == k {
			continue // most of what is asked moves few numbers, and takes several times as long without this
		}
		w, ok := c[k].ways[rest[k]]
		if !ok {
			return false
		}
		for i := k; i < len(rest); i++ {
			rest[i] = w.back[rest[i]]
		}
	}
	return true
}

// count answers how many permutations are in the group: from level to level any of the ways may be gone.
func (c chain) count() *big.Int {
	many := big.NewInt(1)
	for _, l := range c {
		many.Mul(many, big.NewInt(int64(len(l.found))))
	}
	return many
}

// inOrder answers the permutation by which nothing moves.
func inOrder(n int) []int {
	p := make([]int, n)
	for i := range p {
		p[i] = i
	}
	return p
}

// inTurn answers the permutations done one behind the other.
func inTurn(first []int, others ...[]int) []int {
	r := slices.Clone(first)
	for _, p := range others {
		for i, to := range r {
			r[i] = p[to]
		}
	}
	return r
}

func inverse(p []int) []int {
	r := make([]int, len(p))
	for i, to := range p {
		r[to] = i
	}
	return r
}
