package logic_test

import (
	"fmt"
	"slices"
	"testing"

	"arbor/api"
	"arbor/colour"
	"arbor/logic"
	"arbor/parts"
	"arbor/walks"
)

func sameWays(a, b [][]int) bool { return slices.EqualFunc(a, b, slices.Equal) }

func wantAsked(t *testing.T, g api.Graph, f api.Formula) {
	t.Helper()
	want, wantF := wantAsk(g, f)
	if got, fault := logic.Ask(g, f); fault != wantF || !sameWays(got, want) {
		t.Errorf("Ask of %v, %s: %s %v, want %s %v", g, short(wantText(f)), short(got), fault, short(want), wantF)
	}
}

// wantHolds: a formula without free names holds, or does not.
func wantHolds(t *testing.T, g api.Graph, s string, want bool) {
	t.Helper()
	ways := [][]int{}
	if want {
		ways = [][]int{{}}
	}
	if got, f := logic.Ask(g, read(t, s)); f != (api.Fault{}) || !sameWays(got, ways) {
		t.Errorf("Ask of %v, %s: %v %v, want %v", g, s, got, f, want)
	}
}

func TestAskOfWays(t *testing.T) {
	for _, w := range []struct {
		g    api.Graph
		s    string
		want [][]int
	}{
		{path(3), "x ~ y", [][]int{{0, 1}, {1, 0}, {1, 2}, {2, 1}}},
		{path(3), "y ~ x", [][]int{{0, 1}, {1, 0}, {1, 2}, {2, 1}}},
		{path(3), "x = y", [][]int{{0, 0}, {1, 1}, {2, 2}}},
		{path(3), "not x = y and not x ~ y", [][]int{{0, 2}, {2, 0}}},
		{path(3), "x ~ x", nil},
		{path(3), "x = x", [][]int{{0}, {1}, {2}}},
		{path(3), "some y: x ~ y and (some z: x ~ z and not y = z)", [][]int{{1}}},
		{of(3, 2, 0), "b ~ a", [][]int{{0, 2}, {2, 0}}},
		{of(3, 2, 0), "a ~ b and (all c: not c ~ d)", [][]int{{0, 2, 1}, {2, 0, 1}}},
		{of(3, 2, 0), "d = d and (all c: not c ~ d)", [][]int{{1}}},
		{of(2, 0, 1), "z ~ y -> x = y", [][]int{{0, 0, 0}, {0, 0, 1}, {0, 1, 1}, {1, 0, 0}, {1, 1, 0}, {1, 1, 1}}},
		{of(2), "a = b and b = c and c = d and d = e", [][]int{{0, 0, 0, 0, 0}, {1, 1, 1, 1, 1}}},
		{of(1), "x = y", [][]int{{0, 0}}},
		{of(0), "x = y", nil},
		{of(0), "not x = y", nil},
		{of(0), "true", [][]int{{}}},
		{of(0), "false", nil},
		{of(2), "true", [][]int{{}}},
		{of(2), "false", nil},
		{of(8, 7, 3), "x ~ y", [][]int{{3, 7}, {7, 3}}},
	} {
		f := read(t, w.s)
		if got, fault := logic.Ask(w.g, f); fault != (api.Fault{}) || !sameWays(got, w.want) {
			t.Errorf("Ask of %v, %s: %v %v, want %v", w.g, w.s, got, fault, w.want)
		}
		wantAsked(t, w.g, f)
	}
}

func TestAskOfNothingAndLittle(t *testing.T) {
	for s, want := range map[string][3]bool{ // of no node, of one, of two
		"all x: false":                               {true, false, false},
		"all x: true":                                {true, true, true},
		"some x: true":                               {false, true, true},
		"some x: false":                              {false, false, false},
		"all S: false":                               {false, false, false},
		"some S: true":                               {true, true, true},
		"some S: all x: not x in S":                  {true, true, true},
		"some S: some x: not x in S":                 {false, true, true},
		"all S: all x: x in S":                       {true, false, false},
		"all S: some x: x in S":                      {false, false, false},
		"some S: all x: x in S":                      {true, true, true},
		"all x: some S: x in S":                      {true, true, true},
		"all x y: x = y":                             {true, true, false},
		"all x: all S T: x in S -> x in T":           {true, false, false},
		"all S: some T: all x: x in S -> not x in T": {true, true, true},
		"some x y: not x = y":                        {false, false, true},
		"all x: some x: true":                        {true, true, true},
		"some x: all x: x = x":                       {false, true, true},
		"some S: some x y: x in S and not y in S":    {false, false, true},
	} {
		for n, holds := range want {
			wantHolds(t, of(n), s, holds)
		}
	}
}

// What A was outside is not seen within, and is seen again behind it.
func TestAskOfNamesBoundTwice(t *testing.T) {
	for s, want := range map[string]bool{
		"all x: some x: all y: not x ~ y":                             true,
		"some x: (some y: x ~ y) and (some x: all y: not x ~ y)":      true,
		"some x: (some x: all y: not x ~ y) and (some y: x ~ y)":      true,
		"some x: (all y: not x ~ y) and (all x: all y: not x ~ y)":    false,
		"some S: (all x: x in S) and (some S: all x: not x in S)":     true,
		"some S: (some S: all x: not x in S) and (all x: x in S)":     true,
		"some S: (all x: x in S) and (some S: some x: not x in S)":    true,
		"some S: all S: all x: x in S":                                false,
		"all S: some S: all x: x in S":                                true,
		"all x: all y: some x: x = y":                                 true,
		"some x x: not x = x":                                         false,
		"some x y x: x ~ y":                                           true,
		"some x: all y: (some x: x = y) and (x = y -> some x: x ~ x)": false,
	} {
		wantHolds(t, of(4, 0, 1), s, want)
		wantAsked(t, of(4, 0, 1), read(t, s))
	}
	f := read(t, "x ~ y and (some x: all y: not x ~ y)")
	if got, fault := logic.Ask(of(3, 0, 2), f); fault != (api.Fault{}) || !sameWays(got, [][]int{{0, 2}, {2, 0}}) {
		t.Errorf("free and bound: %v %v", got, fault)
	}
}

// manyGraphs has all graphs of up to four nodes, and others of up to eight.
func manyGraphs() []api.Graph {
	var out []api.Graph
	for n := range 5 {
		out = append(out, small(n)...)
	}
	for n := 3; n <= api.MaxWorld; n++ {
		out = append(out, of(n), full(n), path(n), ring(n), sides(1, n-1), sides(n/2, n-n/2))
		for seed := range 30 {
			out = append(out, scrambled(mixed(n, 10+seed*3, seed)))
		}
	}
	return append(out, cube())
}

// What other layers tell of a graph, formulas tell, too.
func TestAskOfWhatOtherLayersTell(t *testing.T) {
	twoSides := "some S: all x y: x ~ y -> (x in S -> not y in S) and (not x in S -> y in S)"
	together := "all S: (some x: x in S) and (some x: not x in S) -> some x y: x in S and not y in S and x ~ y"
	reached := "all S: x in S and (all u v: u in S and u ~ v -> v in S) -> y in S"
	threeColours := "some S T: all x y: x ~ y -> not (x in S and y in S) and (x in S or y in S or (x in T -> not y in T) and (not x in T -> y in T))"
	noRing := "all S: (some x: x in S) -> some x: x in S and (all y z: x ~ y and x ~ z and y in S and z in S -> y = z)"
	clique := "some a b c d e: a ~ b and a ~ c and a ~ d and a ~ e and b ~ c and b ~ d and b ~ e and c ~ d and c ~ e and d ~ e"
	for _, g := range manyGraphs() {
		side, _, _ := parts.Sides(g)
		wantHolds(t, g, twoSides, len(side) == g.N)
		components, _ := parts.Components(g)
		wantHolds(t, g, together, len(components) <= 1)
		girth, _ := walks.Girth(g)
		wantHolds(t, g, noRing, girth == 0)
		wantHolds(t, g, "some x y z: x ~ y and y ~ z and z ~ x", girth == 3)
		wantHolds(t, g, "all x: some y: x ~ y", !slices.ContainsFunc(components, func(l []int) bool { return len(l) == 1 }))
		most, _ := colour.Clique(g)
		wantHolds(t, g, clique, len(most) >= 5)
		number, _, _ := colour.Number(g)
		wantHolds(t, g, threeColours, number <= 3)
		var want [][]int
		for x := range g.N {
			far, _ := walks.Far(g, x)
			for y, steps := range far {
				if steps >= 0 {
					want = append(want, []int{x, y})
				}
			}
		}
		if got, f := logic.Ask(g, read(t, reached)); f != (api.Fault{}) || !sameWays(got, want) {
			t.Errorf("Ask of %v, %s: %v %v, want %v", g, reached, got, f, want)
		}
	}
}

// Formulas of all sorts, held against all that is tried one by one.
func TestAskOfGrownFormulas(t *testing.T) {
	free, sizes := map[int]int{}, map[int]int{}
	for seed := range 12000 {
		draw := drawFrom(seed)
		f := grown(draw, 2+seed%24, 1+seed%4, []string{"x", "y", "ж"}[:1+seed%3], []string{"S", "T"}[:seed/3%3])
		n := seed / 9 % 9
		names, sets := mostBound(f)
		if n > 5 && (names > 3 || sets > 1) {
			n -= 4
		}
		g := mixed(n, 20+draw(60), seed)
		wantAsked(t, g, f)
		if got, fault := logic.Ask(g, f); fault == (api.Fault{}) {
			sizes[n]++
			free[len(freeIn(f))]++
			if len(got) > 0 && len(got[0]) != len(freeIn(f)) {
				t.Errorf("%d names, %v", len(freeIn(f)), got[0])
			}
		}
	}
	if len(free) < 4 || len(sizes) < 9 {
		t.Errorf("so many names were free: %v, of so many nodes: %v", free, sizes)
	}
}

// closed binds all names that are free, so that they stand in some order.
func closed(draw func(n int) int, f api.Formula, order []string) api.Formula {
	for _, name := range order {
		f = part(api.FAll+draw(2), name, "", f)
	}
	return f
}

// Two sets and nodes, bound in all orders, at all sizes.
func TestAskOfTwoSets(t *testing.T) {
	orders := [][]string{{"S", "T", "x"}, {"S", "x", "T"}, {"x", "S", "T"}, {"S", "x", "T", "y"}, {"x", "S", "y", "T"}, {"S", "T", "x", "y"}, {"x", "y", "S", "T"}, {"x", "S", "y", "T", "z"}, {"S", "x", "y", "z", "T"}}
	for seed := range 1500 {
		draw := drawFrom(seed)
		order := orders[seed%len(orders)]
		n := seed / len(orders) % 9
		if len(order) == 5 && n > 5 || n > 6 && len(order) == 4 {
			n -= 4
		}
		f := closed(draw, grown(draw, 3+draw(18), 0, []string{"x", "y", "z"}[:len(order)-2], []string{"S", "T"}), order)
		wantAsked(t, mixed(n, 50, seed), f)
	}
}

// Five names at eight nodes, and so many parts as may be: what is to be told is known.
func TestAskAtTheLimits(t *testing.T) {
	g := cube()
	orders := [][]string{{"S", "T", "x", "y", "z"}, {"x", "y", "z", "S", "T"}, {"x", "S", "y", "T", "z"}, {"z", "T", "y", "S", "x"}}
	l := []api.Formula{in("x", "S"), in("y", "T"), near("x", "y"), is("y", "z"), in("z", "S"), in("x", "T"), near("z", "x")}
	for i, order := range orders {
		// l[0] or not l[0] or .. holds whatever the names are
		odd := []api.Formula{not(l[i])}
		for len(odd) < 97 {
			odd = append(odd, l[len(odd)%len(l)])
		}
		f := row(or, i%2 == 0, odd...)
		always, never := f, not(f)
		for k := range order {
			always, never = all(order[k], always), some(order[k], never)
		}
		for want, f := range map[bool]api.Formula{true: always, false: never} {
			if got, fault := logic.Ask(g, f); fault != (api.Fault{}) || len(got) == 1 != want {
				t.Errorf("%v: %v %v, want %v", order, got, fault, want)
			}
		}
	}
}

func TestAskOfFiveFreeNames(t *testing.T) {
	for _, g := range []api.Graph{full(8), cube(), ring(7), of(8)} {
		var want [][]int
		near := tellerOf(g).near
		for a := range g.N {
			for b := range g.N {
				for c := range g.N {
					for d := range g.N {
						for e := range g.N {
							if near[a][b] && (near[b][c] || near[c][d]) && near[d][e] {
								want = append(want, []int{a, b, c, d, e})
							}
						}
					}
				}
			}
		}
		f := read(t, "d ~ e and (c ~ d or b ~ c) and a ~ b")
		if got, fault := logic.Ask(g, f); fault != (api.Fault{}) || !sameWays(got, want) {
			t.Errorf("Ask of %v: %d ways %v, want %d", g, len(got), fault, len(want))
		}
	}
	if got, fault := logic.Ask(of(8), read(t, "a = a or b = c or d = e")); fault != (api.Fault{}) || len(got) != 32768 || fmt.Sprint(got[32767], got[8], got[1]) != "[7 7 7 7 7] [0 0 0 1 0] [0 0 0 0 1]" {
		t.Errorf("all ways: %d %v", len(got), fault)
	}
}

func TestFaultsOfAsk(t *testing.T) {
	many, none := fault(api.ErrMany, 0), api.Fault{}
	for _, w := range []struct {
		g    api.Graph
		s    string
		want api.Fault
	}{
		{of(8), "true", none},
		{of(9), "true", many},
		{of(100), "true", many},
		{of(8), "x in S", fault(api.ErrName, 0)},
		{of(8), "some x: x in S", fault(api.ErrName, 0)},
		{of(8), "ж in Ж", fault(api.ErrName, 0)},
		{of(8), "x in É and a ~ y", fault(api.ErrName, 3)},
		{of(8), "x in S and a in Ж and (all S: a in S)", fault(api.ErrName, 0)},
		{of(8), "a in É and a in Ж", fault(api.ErrName, 1)},
		{of(8), "x in S and (all S: x in S)", fault(api.ErrName, 0)},
		{of(8), "(all S: x in S) and y = y", none},
		{of(9), "x in S", fault(api.ErrName, 0)},
		{of(8), "a ~ b or c ~ d or e ~ f or a in S", fault(api.ErrName, 0)},
		{of(2), "a ~ b or c ~ d or e ~ e", none},
		{of(2), "a ~ b or c ~ d or e ~ f", many},
		{of(0), "a ~ b or c ~ d or e ~ f", many},
		{of(2), "a ~ b or c ~ d or (all e: e = e)", none},
		{of(2), "a ~ b or c ~ d or (all e f: e = f)", many},
		{of(2), "a ~ b or c ~ d or (all e: e = e) or (all f: f = f)", none},
		{of(2), "(a ~ b or c ~ d or e ~ e) and (all f: true)", many},
		{of(2), "(all f: true) and (a ~ b or c ~ d or e ~ e)", many},
		{of(2), "(all a: a ~ a) and (a ~ b or c ~ d)", none},
		{of(2), "(all a: a ~ a) and (a ~ b or c ~ d or e = e)", many},
		{of(2), "all a b c d e: true", none},
		{of(2), "all a b c d e f: true", many},
		{of(0), "all a b c d e f: true", many},
		{of(2), "all x x x x x: true", none},
		{of(2), "all x x x x x x: true", many},
		{of(2), "(all a b c: true) and (all d e f: true)", none},
		{of(2), "all a b: (all c d e: true) and (some f g h: not (true -> false))", none},
		{of(2), "all a b: (all c d e: true) and (some f g h: not (true -> all i: false))", many},
		{of(2), "all a b: (all c d: not (true -> some e f: false)) and (some f g: true)", many},
		{of(2), "all S T: true", none},
		{of(2), "all S T U: true", many},
		{of(0), "all S T U: true", many},
		{of(2), "all S S: true", none},
		{of(2), "all S S S: true", many},
		{of(2), "all S x T y z: true", none},
		{of(2), "all S x T U: true", many},
		{of(2), "all S x T y z u: true", many},
		{of(2), "all S: some x: (all T: true) and (some U: true) or not (some y: all T: true)", none},
		{of(2), "all S: some x: (all T: true) and (some U: true) or not (some y: all T U: true)", many},
		{of(2), "(all S T: true) and (all S T: true) -> (all U V: true)", none},
		{of(2), "x = x and (all S T: x in S)", none},
		{of(2), "x = y and z = z and (all S T: x in S)", none},
		{of(2), "x = y and z = w and (all S T: x in S)", many},
	} {
		f := read(t, w.s)
		if got, fault := logic.Ask(w.g, f); fault != w.want || fault.Code != api.OK && len(got) > 0 {
			t.Errorf("Ask of %d nodes, %s: %v %v, want %v", w.g.N, w.s, got, fault, w.want)
		}
		if fault := wantAskFault(w.g, f); fault != w.want {
			t.Errorf("the second account of %d nodes, %s is %v, want %v", w.g.N, w.s, fault, w.want)
		}
	}
}

// All that can be wrong, each with each: what is told is the first of it.
func TestFaultsOfAskInTheirOrder(t *testing.T) {
	graphs := []api.Graph{
		of(-1), of(101), {N: 100, Edges: full(60).Edges[:1001]}, of(3, 0, 1, 1, 3), of(3, 0, 1, -1, 0), of(3, 0, 1, 2, 2), of(3, 0, 1, 1, 0),
		of(9, 0, 9), of(9), of(100), of(8), of(3, 0, 1), of(0),
	}
	formulas := []api.Formula{
		{}, part(12, "", ""), part(api.FNot, "", ""), in("x", "y"), and(near("x", "y"), near("x", "S")), times(200, yes(), not), times(199, in("x", "S"), not),
		in("x", "S"), in("x", "Ж"), and(in("x", "Ж"), all("S", all("T", all("U", yes())))), and(near("a", "b"), and(near("c", "d"), near("e", "f"))), and(near("a", "b"), and(near("c", "d"), in("e", "S"))),
		all("S", all("T", all("U", in("x", "U")))), times(6, yes(), func(f api.Formula) api.Formula { return some("x", f) }), yes(), no(), near("x", "y"), all("S", in("x", "S")),
	}
	seen := map[int]int{}
	for _, g := range graphs {
		for _, f := range formulas {
			want := wantAskFault(g, f)
			seen[want.Code]++
			if got, fault := logic.Ask(g, f); fault != want || fault.Code != api.OK && len(got) > 0 {
				t.Errorf("Ask of %s, %s: %v %v, want %v", short(g), short(f), got, fault, want)
			}
		}
	}
	for _, code := range []int{api.OK, api.ErrMany, api.ErrRange, api.ErrLoop, api.ErrTwice, api.ErrKind, api.ErrSize, api.ErrName} {
		if seen[code] == 0 {
			t.Errorf("code %d did not come up", code)
		}
	}
}
