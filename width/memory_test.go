package width_test

import (
	"fmt"
	"math"
	"slices"
	"testing"

	"arbor/api"
	"arbor/width"
)

// spare is a list with memory behind its length, in which odd things stand.
func spare[T any](l []T, odd T) []T {
	return append(slices.Clone(l), odd, odd)[:len(l)]
}

// spoil writes over all memory of a list, also behind its length.
func spoil[T any](l []T, odd T) {
	for i := range l[:cap(l)] {
		l[:cap(l)][i] = odd
	}
}

func wholeOf[T any](l []T) []T { return l[:len(l)+2] }

// spareOf is a question all of whose lists have memory behind their length.
func spareOf(q question) question {
	bags := slices.Clone(q.bags)
	for i, bag := range bags {
		bags[i] = spare(bag, -7)
	}
	g := api.Graph{N: q.g.N, Edges: spare(q.g.Edges, [2]int{-7, -7})}
	return question{g, spare(q.weights, math.MaxInt), tree{spare(bags, []int{-7, -7}), spare(q.up, -7)}}
}

// tellWhole tells a question of spareOf with what stands behind its lists.
func tellWhole(q question) string {
	told := fmt.Sprint(wholeOf(q.g.Edges), wholeOf(q.weights), wholeOf(q.bags), wholeOf(q.up))
	for _, bag := range q.bags {
		told += fmt.Sprint(wholeOf(bag))
	}
	return told
}

// asked has questions of all kinds that are answered, and some that are not.
func asked() []question {
	var all []question
	for seed, g := range append(small(4), ring(6), petersen(), grid(3, 4), full(12), of(12), star(7), icosahedron(), of(0), of(1)) {
		all = append(all, question{scrambled(g), weighing(g.N, 3, seed), turned(leastOf(g), seed)}, question{g, same(g.N, 1), inARow(upTo(g.N))})
	}
	for seed := range 60 {
		over, g := lying(12+seed, 4+seed%7, 20+seed, 50, seed)
		all = append(all, question{g, weighing(g.N, 1, seed), over}, question{g, weighing(g.N, 1, seed)[1:], over}, question{g, weighing(g.N, 1, seed), tree{over.bags, make([]int, len(over.up))}})
	}
	return append(all, question{of(2, 0, 1, 1, 1), nil, inARow(nil)}, question{of(2, 0, 1), same(2, 5), inARow([]int{0, 1}, []int{1, 1})})
}

func TestListsAreOnlyReadAndAnswersAreNew(t *testing.T) {
	for _, was := range asked() {
		for _, c := range calls() {
			q := spareOf(was)
			before := tellWhole(q)
			first, f := c.ask(q)
			told := fmt.Sprint(first, f)
			second, again := c.ask(q)
			wantApart(t, c.name, first)
			third, _ := c.ask(was)
			if fmt.Sprint(second, again) != told || fmt.Sprint(third, f) != told {
				t.Errorf("%s of %v: %s, then %v, then %v", c.name, was, told, second, third)
			}
			if after := tellWhole(q); after != before {
				t.Errorf("%s changed %s to %s", c.name, before, after)
			}
		}
	}
}

// wantApart writes over all memory of each list, and looks whether another one changes.
func wantApart(t *testing.T, name string, a answer) {
	t.Helper()
	lists := append(slices.Clone(a.bags), a.nodes, a.up)
	for i, l := range lists {
		was := fmt.Sprint(lists[i+1:])
		spoil(l, -9)
		if fmt.Sprint(lists[i+1:]) != was {
			t.Errorf("%s: list %d shares memory with one behind it", name, i)
		}
	}
	spoil(a.bags, nil)
}

// One list may stand in several places of what comes in.
func TestListsThatAreShared(t *testing.T) {
	l := []int{-1, 0}
	bag := []int{1, 0}
	shared, apart := question{of(2, 0, 1), l, tree{[][]int{bag, bag}, l}}, question{of(2, 0, 1), []int{-1, 0}, tree{[][]int{{1, 0}, {1, 0}}, []int{-1, 0}}}
	if got, want := tellAll(shared), tellAll(apart); got != want {
		t.Errorf("%s, want %s", got, want)
	}
}

func TestListsWithoutElementsAreTheSame(t *testing.T) {
	for _, n := range []int{-1, 0, 1, 2, api.MaxSmall, api.MaxSmall + 1, api.MaxNodes, api.MaxNodes + 1} {
		for _, weights := range [][]int{{}, same(max(0, n), 1)} {
			for _, up := range [][]int{{}, {-1}, {-1, 0}} {
				nothing, empty := question{g: api.Graph{N: n}}, question{api.Graph{N: n, Edges: [][2]int{}}, weights, tree{[][]int{}, up}}
				if len(weights) > 0 {
					nothing.weights = weights
				}
				for range up {
					nothing.bags, empty.bags = append(nothing.bags, nil), append(empty.bags, []int{})
				}
				if len(up) > 0 {
					nothing.up = up
				}
				if one, two := tellAll(nothing), tellAll(empty); one != two {
					t.Errorf("%d nodes, %v: %s, then %s", n, up, one, two)
				}
			}
		}
	}
}

// Where many choices are equally good, the same one is answered each time.
func TestEquallyGoodAnswers(t *testing.T) {
	for _, q := range []question{
		{ring(12), same(12, 1), leastOf(ring(12))}, {groups(6, 6), same(12, 1), inARow(upTo(12))}, {of(12), same(12, 0), inARow(upTo(12))},
		{path(100), same(100, 1), window(100, 5)}, {grid(10, 10), same(100, 7), window(100, 11)}, {petersen(), same(10, 1), leastOf(petersen())},
	} {
		first := tellAll(q)
		for range 20 {
			if again := tellAll(q); again != first {
				t.Fatalf("%v: %s, then %s", q, first, again)
			}
		}
	}
}

// Calls side by side do not meet in anything.
func TestCallsSideBySide(t *testing.T) {
	all := asked()[:80]
	want := make([]string, len(all))
	for i, q := range all {
		want[i] = tellAll(q)
	}
	t.Run("all", func(t *testing.T) {
		for i, q := range all {
			t.Run(fmt.Sprint(i), func(t *testing.T) {
				t.Parallel()
				if got := tellAll(q); got != want[i] {
					t.Errorf("%v: %s, want %s", q, got, want[i])
				}
			})
		}
	})
}

// numbers at which arithmetic and limits give way.
func numbers() []int {
	return []int{math.MinInt, -api.MaxValue - 1, -2, -1, 0, 1, 2, api.MaxSmall, api.MaxSmall + 1, 63, 64, api.MaxNodes - 1, api.MaxNodes, api.MaxNodes + 1, api.MaxValue + 1, math.MaxInt}
}

func TestNoCallPanics(t *testing.T) {
	for _, u := range numbers() {
		for _, v := range numbers() {
			for _, n := range numbers() {
				for _, g := range []api.Graph{of(n), of(n, 0, 1), of(n, u, v)} {
					askAll(t, question{g, []int{u, v}, inARow([]int{u, v})})
				}
			}
			for _, over := range []tree{{}, inARow([]int{u, v}), {[][]int{{0}, {1}}, []int{u, v}}, {[][]int{{u}, {v}, {0, 1}}, []int{2, v, u}}, {[][]int{nil, nil, nil}, []int{u, v, -1}}} {
				for _, g := range []api.Graph{of(0), of(1), of(2, 0, 1), of(3, 0, 1), of(100, 63, 64)} {
					askAll(t, question{g, []int{u, v}, over})
				}
			}
		}
	}
}

// askAll holds the faults of all calls against the second account.
func askAll(t *testing.T, q question) {
	t.Helper()
	for _, c := range calls() {
		if _, f := c.ask(q); f != c.fault(q) {
			t.Errorf("%s of %v: %v, want %v", c.name, q, f, c.fault(q))
		}
	}
}

// The nodes at the ends of a word, and behind it, are nodes as others are.
func TestNodesOfAllNumbers(t *testing.T) {
	for v := 1; v < api.MaxNodes; v++ {
		g := of(api.MaxNodes, v-1, v)
		weights := make([]int, api.MaxNodes)
		weights[v-1], weights[v] = 4, 5
		if total, nodes, f := width.Heaviest(g, weights, window(api.MaxNodes, 2).bags, window(api.MaxNodes, 2).up); total != 5 || !slices.Contains(nodes, v) || f != (api.Fault{}) {
			t.Errorf("the edge %v: %d %v %v", g.Edges, total, nodes, f)
		}
	}
}
