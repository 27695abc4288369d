package logic

const wordBits = 64

// table has a bit for each way in which the names of a scope can be nodes and sets, 1 where something holds. The ways are in the order of what the last name is, then of what the one ahead of it is, and so on. The bits of the last word behind the last way are 0.
type table struct {
	size  int
	words []uint64
}

func and(a, b uint64) uint64 { return a & b }

func or(a, b uint64) uint64 { return a | b }

func then(a, b uint64) uint64 { return ^a | b }

func wordsFor(size int) int { return (size + wordBits - 1) / wordBits }

// noneOf is what holds in none of so many ways.
func noneOf(size int) table { return table{size, make([]uint64, wordsFor(size))} }

// allOf is what holds in all of so many ways.
func allOf(size int) table { return noneOf(size).not() }

// oneOf is what holds, or does not, in the one way that there is.
func oneOf(holds bool) table {
	if holds {
		return allOf(1)
	}
	return noneOf(1)
}

func (t table) has(place int) bool { return t.words[place/wordBits]>>(place%wordBits)&1 == 1 }

// not turns t over.
func (t table) not() table {
	for i := range t.words {
		t.words[i] = ^t.words[i]
	}
	t.trim()
	return t
}

// with joins to t another table of the same ways.
func (t table) with(other table, join func(a, b uint64) uint64) table {
	return t.withPieces(other, 1, join)
}

// withPieces joins to t, one by one, so many pieces, each of them as great as t, that stand one behind the other in another table.
func (t table) withPieces(other table, pieces int, join func(a, b uint64) uint64) table {
	for piece := range pieces {
		for i := range t.words {
			t.words[i] = join(t.words[i], other.wordFrom(piece*t.size+i*wordBits))
		}
	}
	t.trim()
	return t
}

// wordFrom answers a word of the bits from a place on.
func (t table) wordFrom(place int) uint64 {
	at, shift := place/wordBits, place%wordBits
	word := t.words[at] >> shift
	if shift > 0 && at+1 < len(t.words) {
		word |= t.words[at+1] << (wordBits - shift)
	}
	return word
}

// trim makes the bits behind the last way 0.
func (t table) trim() {
	if rest := t.size % wordBits; rest > 0 {
		t.words[len(t.words)-1] &= 1<<rest - 1
	}
}

// roomFor has nothing yet, but memory for so many ways; add writes a word more for a moment.
func roomFor(size int) table { return table{words: make([]uint64, 0, wordsFor(size)+1)} }

// times answers a table that has t so many times.
func (t table) times(many int) table {
	out := roomFor(t.size * many)
	for range many {
		out.add(t)
	}
	return out
}

// add sets another table behind t.
func (t *table) add(more table) {
	shift := t.size % wordBits
	t.size += more.size
	if shift == 0 {
		t.words = append(t.words, more.words...)
		return
	}
	for _, word := range more.words {
		t.words[len(t.words)-1] |= word << shift
		t.words = append(t.words, word>>(wordBits-shift))
	}
	// what is left over of the last word may be nothing
	t.words = t.words[:wordsFor(t.size)]
}
