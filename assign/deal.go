package assign

import "slices"

// deal is what the rows that were served have got. At any time no row's and column's number are more, together, than what stands in their place, and just that where the row has got the column: so what is given so far is as cheap as can be.
type deal struct {
	cost       [][]int
	rows, cols []int
	to         []int // of each row its column, or none
	by         []int // of each column its row, or none
}

func newDeal(cost [][]int) *deal {
	n := len(cost)
	d := &deal{cost: cost, rows: make([]int, n), cols: make([]int, n), to: slices.Repeat([]int{none}, n), by: slices.Repeat([]int{none}, n)}
	for row := range n {
		d.rows[row] = slices.Min(cost[row])
	}
	return d
}

// rest answers what a place costs beyond its row's and its column's number; never less than 0.
func (d *deal) rest(row, col int) int { return d.cost[row][col] - d.rows[row] - d.cols[col] }

// serve gives a row a column that was free. Others may change theirs for it.
func (d *deal) serve(row int) {
	s := d.searchFrom(row)
	d.shift(row, s)
	d.hand(row, s)
}

// search is how the columns are reached from a row: it takes one, the row that has it takes another one, and so on, each at the rest of its place.
type search struct {
	far  []int // of each column the least way there, of those that are known
	from []int // of each column the row that takes it on this way
	done []int // the columns to which no way is less, the nearest one first; of them the last one alone is free
}

func (d *deal) searchFrom(row int) search {
	n := len(d.cost)
	s := search{far: make([]int, n), from: slices.Repeat([]int{row}, n)}
	for col := range n {
		s.far[col] = d.rest(row, col)
	}
	open := slices.Repeat([]bool{true}, n)
	for {
		col := s.nearest(open)
		open[col] = false
		s.done = append(s.done, col)
		if d.by[col] == none {
			return s
		}
		s.goOn(d, col)
	}
}

// nearest answers the open column with the least way. There is one: fewer rows were served than there are columns, so one of those that are not reached is free.
func (s *search) nearest(open []bool) int {
	best := none
	for col := range len(open) {
		if open[col] && (best == none || s.far[col] < s.far[best]) {
			best = col
		}
	}
	return best
}

// goOn looks which columns the row of this one can take at less than what is known; no column that is done, since all of them are nearer.
func (s *search) goOn(d *deal, col int) {
	row := d.by[col]
	for next := range len(s.far) {
		if way := s.far[col] + d.rest(row, next); way < s.far[next] {
			s.far[next], s.from[next] = way, row
		}
	}
}

// shift changes the numbers so that nothing is left on the way to the last column, and nowhere less than that.
func (d *deal) shift(row int, s search) {
	last := len(s.done) - 1
	whole := s.far[s.done[last]]
	d.rows[row] += whole
	for _, col := range s.done[:last] {
		d.rows[d.by[col]] += whole - s.far[col]
		d.cols[col] -= whole - s.far[col]
	}
}

// hand gives each row on the way to the last column the one that it takes there.
func (d *deal) hand(row int, s search) {
	col := s.done[len(s.done)-1]
	for {
		taker := s.from[col]
		d.by[col] = taker
		d.to[taker], col = col, d.to[taker]
		if taker == row {
			return
		}
	}
}
