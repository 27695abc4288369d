package assign_test

import (
	"math"
	"testing"

	"arbor/api"
	"arbor/assign"
)

// wantLeast holds an answer of Least against what it shows itself: numbers that are nowhere more than what stands there, and together the total of what is given. It answers that total.
func wantLeast(t *testing.T, what string, cost [][]int) int {
	t.Helper()
	n := len(cost)
	to, rows, cols, total, f := assign.Least(cost)
	if f != (api.Fault{}) || !isOrder(to, n) || len(rows) != n || len(cols) != n {
		t.Fatalf("Least, %s: %v %v %v %d %v of %v", what, to, rows, cols, total, f, cost)
	}
	given, shown := 0, 0
	for row := range n {
		given += cost[row][to[row]]
		shown += rows[row] + cols[row]
		for col := range n {
			if sum := rows[row] + cols[col]; sum > cost[row][col] || sum < cost[row][col] && to[row] == col {
				t.Fatalf("Least, %s: at %d %d %d, the numbers make %d: %v %v %v of %v", what, row, col, cost[row][col], sum, to, rows, cols, cost)
			}
		}
	}
	if given != total || shown != total {
		t.Fatalf("Least, %s: %d, but to makes %d and the numbers make %d: %v %v %v of %v", what, total, given, shown, to, rows, cols, cost)
	}
	return total
}

func TestLeastByHand(t *testing.T) {
	for _, c := range []struct {
		what  string
		cost  [][]int
		total int
	}{
		{"nothing", nil, 0},
		{"one", [][]int{{7}}, 7},
		{"one below 0", [][]int{{-7}}, -7},
		{"the document's", [][]int{{1, 2}, {3, 5}}, 5},
		{"the cheapest place is not taken", [][]int{{1, 2}, {2, 9}}, 4},
		{"three", [][]int{{4, 1, 3}, {2, 0, 5}, {3, 2, 2}}, 5},
		{"all alike", [][]int{{3, 3, 3}, {3, 3, 3}, {3, 3, 3}}, 9},
		{"all would take the first one", [][]int{{0, 5, 9}, {0, 6, 8}, {0, 9, 7}}, 12},
		{"from one row to the next", [][]int{{0, 1, 9, 9}, {0, 9, 1, 9}, {9, 0, 0, 1}, {0, 0, 9, 9}}, 2},
		{"below and above 0", [][]int{{-1, 1, 0}, {-5, -4, 0}, {2, 3, -3}}, -8},
		{"the limits", [][]int{{api.MaxValue, -api.MaxValue}, {-api.MaxValue, -api.MaxValue}}, -2 * api.MaxValue},
		{"no way round the limits", [][]int{{-api.MaxValue, api.MaxValue}, {-api.MaxValue, api.MaxValue}}, 0},
	} {
		if total := wantLeast(t, c.what, c.cost); total != c.total {
			t.Errorf("%s: %d, want %d", c.what, total, c.total)
		}
	}
	to, _, _, _, _ := assign.Least([][]int{{1, 2}, {3, 5}})
	if to[0] != 1 || to[1] != 0 {
		t.Errorf("the document's: %v, want [1 0]", to)
	}
}

// cheapest holds an answer of Least against the second account, too.
func cheapest(t *testing.T, what string, cost [][]int) {
	t.Helper()
	if total, want := wantLeast(t, what, cost), leastTotal(cost); total != want {
		t.Fatalf("%s: %d, want %d, of %v", what, total, want, cost)
	}
}

// digits has the n times n digits of a number to some base, each less some.
func digits(number, n, base, less int) [][]int {
	return table(n, func(int, int) int {
		digit := number % base
		number /= base
		return digit - less
	})
}

func TestLeastOfAllSmallTables(t *testing.T) {
	for number := range 2401 {
		cheapest(t, "two rows", digits(number, 2, 7, 3))
	}
	for number := range 19683 {
		cheapest(t, "three rows", digits(number, 3, 3, 1))
	}
	for number := range 65536 {
		cheapest(t, "four rows", digits(number, 4, 2, 0))
	}
}

func TestLeastOfMixedTables(t *testing.T) {
	for seed := range 1500 {
		n := 2 + seed%7
		cheapest(t, "few numbers", mixedCost(n, -2, 2, seed))
		cheapest(t, "some numbers", mixedCost(n, 0, 30, seed))
		cheapest(t, "great numbers", mixedCost(n, -api.MaxValue, api.MaxValue, seed))
	}
	for seed := range 30 {
		cheapest(t, "more rows", mixedCost(12, -seed, 3*seed, seed))
	}
}

func TestLeastAtTheLimits(t *testing.T) {
	n, most := api.MaxNodes, api.MaxValue
	for _, c := range []struct {
		what  string
		cost  [][]int
		total int
	}{
		{"the most", table(n, func(int, int) int { return most }), n * most},
		{"the least", table(n, func(int, int) int { return -most }), -n * most},
		{"products: the greatest with the least", table(n, func(row, col int) int { return (row + 1) * (col + 1) }), n * (n + 1) * (n + 2) / 6},
		{"products below 0: each with itself", table(n, func(row, col int) int { return -(row + 1) * (col + 1) }), -n * (n + 1) * (2*n + 1) / 6},
		{"sums: all alike", table(n, func(row, col int) int { return 5000*row - 10000*col }), -5000 * n * (n - 1) / 2},
		{"far from each other", table(n, func(row, col int) int { return max(row-col, col-row) }), 0},
		{"one by one", table(n, func(row, col int) int { return most * ((row+1)%n - col) / n * ((row+1)%n - col) / n }), 0},
		{"a free place in each row", table(n, func(row, col int) int { return most - 2*most*max(0, 1-max(row*7%n-col, col-row*7%n)) }), -n * most},
		{"stairs", table(n, func(row, col int) int { return most * max(0, min(1, col-row)) }), 0},
		{"stairs and no step", table(n, func(row, col int) int { return most * max(0, min(1, col-row+1)) }), most},
		{"one column for all", table(n, func(_, col int) int { return -most * max(0, 1-col) }), -most},
	} {
		if total := wantLeast(t, c.what, c.cost); total != c.total {
			t.Errorf("%s: %d, want %d", c.what, total, c.total)
		}
	}
	for seed := range 20 {
		wantLeast(t, "few numbers", mixedCost(n-seed%3, -1, 1, seed))
		wantLeast(t, "great numbers", mixedCost(n-seed%3, -most, most, seed))
		wantLeast(t, "near the most", mixedCost(n-seed%3, most-seed, most, seed))
	}
}

func TestFaultsOfLeast(t *testing.T) {
	good := mixedCost(4, -9, 9, 1)
	long := make([]int, api.MaxNodes+1)
	greatest := mixedCost(api.MaxNodes, -api.MaxValue, api.MaxValue, 2)
	last := api.MaxNodes - 1
	for _, c := range []struct {
		what string
		cost [][]int
		want api.Fault
	}{
		{"one row too many", table(api.MaxNodes+1, func(int, int) int { return 0 }), fault(api.ErrMany, 0)},
		{"many rows without numbers", make([][]int, 100000), fault(api.ErrMany, 0)},
		{"many ahead of size and range", append(copied(greatest), []int{math.MaxInt}), fault(api.ErrMany, 0)},
		{"one row without numbers", [][]int{nil}, fault(api.ErrSize, 0)},
		{"one row of two", [][]int{{1, 2}}, fault(api.ErrSize, 0)},
		{"a row too short", swap(good, 2, 1, 2, 3), fault(api.ErrSize, 2)},
		{"a row too long", swap(good, 3, 1, 2, 3, 4, 5), fault(api.ErrSize, 3)},
		{"a very long row", swap(good, 1, long...), fault(api.ErrSize, 1)},
		{"an empty row", swap(good, 0), fault(api.ErrSize, 0)},
		{"the last row at the limits", swap(greatest, last, long...), fault(api.ErrSize, last)},
		{"above", put(good, 1, 3, api.MaxValue+1), fault(api.ErrRange, 1)},
		{"below", put(good, 3, 0, -api.MaxValue-1), fault(api.ErrRange, 3)},
		{"far above", put(good, 0, 0, math.MaxInt), fault(api.ErrRange, 0)},
		{"far below", put(good, 2, 2, math.MinInt), fault(api.ErrRange, 2)},
		{"range in the last place at the limits", put(greatest, last, last, api.MaxValue+1), fault(api.ErrRange, last)},
		{"size ahead of range in one row", swap(good, 2, math.MaxInt, 0, 0), fault(api.ErrSize, 2)},
		{"range in a row ahead of size in a later one", swap(put(good, 1, 1, math.MinInt), 2, 1), fault(api.ErrRange, 1)},
		{"size in a row ahead of range in a later one", swap(put(good, 2, 1, math.MinInt), 1, 1), fault(api.ErrSize, 1)},
		{"the first of two", put(put(good, 3, 0, math.MaxInt), 2, 3, math.MaxInt), fault(api.ErrRange, 2)},
	} {
		wantFaultOfLeast(t, c.what, c.cost, c.want)
	}
}
