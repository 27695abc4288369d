package codec

import "arbor/api"

// The bytes of graph6: six bits with low added, so that each can be printed.
const (
	low  = 63
	high = 126
	six  = 6
)

// Below longFrom, N is one byte; from there on it is the byte high and longDigits bytes.
const (
	longFrom   = 63
	longDigits = 3
)

func packSize(n int) string {
	if n < longFrom {
		return string([]byte{byte(n + low)})
	}
	out := []byte{high}
	for k := longDigits - 1; k >= 0; k-- {
		out = append(out, byte(n>>(six*k)&(1<<six-1)+low))
	}
	return string(out)
}

func packPairs(g api.Graph) string {
	out := make([]byte, bytesFor(g.N))
	for _, e := range g.Edges {
		p := place(e[0], e[1])
		out[p/six] |= bit(p)
	}
	for i := range out {
		out[i] += low
	}
	return string(out)
}

func checkBytes(s string) {
	for at := range len(s) {
		if s[at] < low || s[at] > high {
			giveUp(api.ErrText, at)
		}
	}
}

// unpackSize reads N, and answers where the pairs begin.
func unpackSize(s string) (n, from int) {
	if s == "" {
		giveUp(api.ErrText, 0)
	}
	if s[0] != high {
		return int(s[0] - low), 1
	}
	from = 1 + longDigits
	if len(s) < from {
		giveUp(api.ErrText, len(s))
	}
	for at := 1; at < from; at++ {
		n = n<<six | int(s[at]-low)
	}
	if n < longFrom {
		giveUp(api.ErrForm, 0)
	}
	if n > api.MaxNodes {
		giveUp(api.ErrMany, 0)
	}
	return n, from
}

// checkPairs sees to it that as many bytes as n nodes ask for stand in s behind from, with noughts behind the last pair.
func checkPairs(s string, n, from int) {
	end := from + bytesFor(n)
	if len(s) < end {
		giveUp(api.ErrText, len(s))
	}
	if len(s) > end {
		giveUp(api.ErrText, end)
	}
	// Without pairs the last byte is one of N, but then no bit is spare, and none is asked.
	spare := six*bytesFor(n) - pairs(n)
	if (s[end-1]-low)&(1<<spare-1) != 0 {
		giveUp(api.ErrForm, end-1)
	}
}

// unpackPairs answers the edges that the bytes tell, in the order of their bits.
func unpackPairs(s string, n int) [][2]int {
	var edges [][2]int
	for j := range n {
		for i := range j {
			p := place(i, j)
			if (s[p/six]-low)&bit(p) != 0 {
				edges = append(edges, [2]int{i, j})
			}
		}
	}
	return edges
}

// place is how many pairs stand ahead of i < j in the order of j, then of i.
func place(i, j int) int { return pairs(j) + i }

// pairs is how many pairs n nodes have.
func pairs(n int) int { return n * (n - 1) / 2 }

func bytesFor(n int) int { return (pairs(n) + six - 1) / six }

// bit is the p-th pair's bit within its byte: the first of six is the highest.
func bit(p int) byte { return 1 << (six - 1 - p%six) }
