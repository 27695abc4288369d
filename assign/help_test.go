package assign_test

import (
	"fmt"
	"slices"
	"testing"

	"arbor/api"
	"arbor/assign"
)

func fault(code, at int) api.Fault { return api.Fault{Code: code, At: at} }

// table has n rows of n numbers, as a function tells them.
func table(n int, number func(row, col int) int) [][]int {
	lists := make([][]int, n)
	for row := range n {
		lists[row] = make([]int, n)
		for col := range n {
			lists[row][col] = number(row, col)
		}
	}
	return lists
}

// put is lists with another number in one place.
func put(lists [][]int, row, col, number int) [][]int {
	out := copied(lists)
	out[row][col] = number
	return out
}

// swap is lists with another one in place of one of them.
func swap(lists [][]int, at int, list ...int) [][]int {
	out := copied(lists)
	out[at] = list
	return out
}

func copied(lists [][]int) [][]int {
	out := make([][]int, len(lists))
	for i, l := range lists {
		out[i] = slices.Clone(l)
	}
	return out
}

// orders has all orders of the numbers below n.
func orders(n int) [][]int {
	if n == 0 {
		return [][]int{{}}
	}
	var out [][]int
	for _, order := range orders(n - 1) {
		for at := range n {
			out = append(out, slices.Insert(slices.Clone(order), at, n-1))
		}
	}
	return out
}

// drawFrom answers a function that draws numbers below some n, none of them chosen by hand; the same ones each time.
func drawFrom(seed int) func(n int) int {
	x := uint64(seed)*2654435761 + 12345
	return func(n int) int {
		x = x*6364136223846793005 + 1442695040888963407
		return int(x>>33) % n
	}
}

// mixedCost has n rows of n numbers from least to most.
func mixedCost(n, least, most, seed int) [][]int {
	draw := drawFrom(seed)
	return table(n, func(int, int) int { return least + draw(most-least+1) })
}

// mixedLists has n lists, each of which names the numbers below n in an order of its own.
func mixedLists(n, seed int) [][]int {
	draw := drawFrom(seed)
	lists := alike(n)
	for _, l := range lists {
		for i := n - 1; i > 0; i-- {
			j := draw(i + 1)
			l[i], l[j] = l[j], l[i]
		}
	}
	return lists
}

// nearlyAlike has n lists that name the numbers below n in their order, but for some neighbours.
func nearlyAlike(n, changes, seed int) [][]int {
	draw := drawFrom(seed)
	lists := alike(n)
	for _, l := range lists {
		for range changes {
			i := draw(n - 1)
			l[i], l[i+1] = l[i+1], l[i]
		}
	}
	return lists
}

// alike has n lists that all name the numbers below n in their order.
func alike(n int) [][]int {
	return table(n, func(_, col int) int { return col })
}

// turning has n lists, each of which begins with another one: list i with i, in their order from there on.
func turning(n int) [][]int {
	return table(n, func(row, col int) int { return (row + col) % n })
}

// reversed names in each list the last one first.
func reversed(lists [][]int) [][]int {
	out := copied(lists)
	for _, l := range out {
		slices.Reverse(l)
	}
	return out
}

// isOrder: does the list name each number below n once?
func isOrder(list []int, n int) bool {
	sorted := slices.Sorted(slices.Values(list))
	for i, number := range sorted {
		if number != i {
			return false
		}
	}
	return len(sorted) == n
}

// wantFaultOfLeast also holds that everything beside the fault is empty.
func wantFaultOfLeast(t *testing.T, what string, cost [][]int, want api.Fault) {
	t.Helper()
	to, rows, cols, total, f := assign.Least(cost)
	if f != want || len(to) != 0 || len(rows) != 0 || len(cols) != 0 || total != 0 {
		t.Errorf("Least, %s: %v %v %v %d %v, want %v alone", what, to, rows, cols, total, f, want)
	}
}

func wantFaultOfStable(t *testing.T, what string, a, b [][]int, want api.Fault) {
	t.Helper()
	to, f := assign.Stable(a, b)
	if f != want || len(to) != 0 {
		t.Errorf("Stable, %s: %v %v, want %v alone", what, to, f, want)
	}
}

// tellAll asks both calls of two tables.
func tellAll(a, b [][]int) string {
	to, rows, cols, total, f := assign.Least(a)
	other, g := assign.Stable(a, b)
	return fmt.Sprint(to, rows, cols, total, f, other, g)
}
