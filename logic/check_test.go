package logic_test

import (
	"math"
	"testing"

	"arbor/api"
	"arbor/logic"
)

// wantChecked: what Check tells, and Print, Free and Ask tell it, too, with nothing beside it.
func wantChecked(t *testing.T, name string, f api.Formula, want api.Fault) {
	t.Helper()
	if got := logic.Check(f); got != want {
		t.Errorf("Check of %s: %v, want %v", name, got, want)
	}
	if got := wantCheck(f); got != want {
		t.Errorf("the second account of %s is %v, want %v", name, got, want)
	}
	if want == (api.Fault{}) {
		return
	}
	if s, got := logic.Print(f); got != want || s != "" {
		t.Errorf("Print of %s: %s %v, want nothing and %v", name, short(s), got, want)
	}
	if l, got := logic.Free(f); got != want || len(l) > 0 {
		t.Errorf("Free of %s: %v %v, want nothing and %v", name, l, got, want)
	}
	if l, got := logic.Ask(of(1), f); got != want || len(l) > 0 {
		t.Errorf("Ask of %s: %v %v, want nothing and %v", name, l, got, want)
	}
}

func TestCheckOfKinds(t *testing.T) {
	for _, kind := range []int{math.MinInt, -12, -1, 0, 12, 13, 256 + api.FTrue, 1<<32 + api.FTrue, math.MaxInt} {
		for kids := range 4 {
			f := part(kind, "", "", make([]api.Formula, kids)...)
			wantChecked(t, short(f), f, fault(api.ErrKind, 0))
			wantChecked(t, short(f), not(and(yes(), f)), fault(api.ErrKind, 3))
		}
	}
}

// All kinds, with each number of Kids and each two of these names.
func TestCheckOfSingleParts(t *testing.T) {
	names := []string{"", "x", "S", "ж9", "Ж", "not", "9", "x ", "x~"}
	for kind := range 14 {
		for kids := range 4 {
			for _, a := range names {
				for _, b := range names {
					f := part(kind, a, b)
					for range kids {
						f.Kids = append(f.Kids, yes())
					}
					if got, want := logic.Check(f), wantCheck(f); got != want {
						t.Errorf("Check of %+v: %v, want %v", f, got, want)
					}
				}
			}
		}
	}
}

func TestCheckOfParts(t *testing.T) {
	for _, w := range []struct {
		name string
		f    api.Formula
		want api.Fault
	}{
		{"nothing", api.Formula{}, fault(api.ErrKind, 0)},
		{"true", yes(), fault(0, 0)},
		{"false", no(), fault(0, 0)},
		{"nodes", and(near("x", "x"), is("y", "z")), fault(0, 0)},
		{"a set", some("S", in("x", "S")), fault(0, 0)},
		{"a name bound twice", all("x", some("x", near("x", "x"))), fault(0, 0)},
		{"a name that is not asked for", all("x", all("S", no())), fault(0, 0)},
		{"kind ahead of size and name", part(12, "9", "9", yes(), yes(), yes()), fault(api.ErrKind, 0)},
		{"size ahead of name", part(api.FNot, "9", "9"), fault(api.ErrSize, 0)},
		{"size ahead of the Kids", part(api.FNot, "", "", api.Formula{}, api.Formula{}), fault(api.ErrSize, 0)},
		{"name ahead of the Kids", part(api.FNot, "x", "", api.Formula{}), fault(api.ErrName, 0)},
		{"one Kid of two", part(api.FAnd, "", "", yes()), fault(api.ErrSize, 0)},
		{"three Kids of two", part(api.FOr, "", "", yes(), yes(), yes()), fault(api.ErrSize, 0)},
		{"no Kids of two", part(api.FThen, "", ""), fault(api.ErrSize, 0)},
		{"a Kid of none", part(api.FNear, "x", "y", yes()), fault(api.ErrSize, 0)},
		{"a Kid of true", part(api.FTrue, "", "", yes()), fault(api.ErrSize, 0)},
		{"two Kids of one", part(api.FAll, "x", "", yes(), yes()), fault(api.ErrSize, 0)},
		{"no Kids of one", part(api.FSome, "x", ""), fault(api.ErrSize, 0)},
		{"a set that is near", near("S", "x"), fault(api.ErrName, 0)},
		{"near a set", near("x", "S"), fault(api.ErrName, 0)},
		{"a set that is a node", is("x", "S"), fault(api.ErrName, 0)},
		{"in a node", in("x", "y"), fault(api.ErrName, 0)},
		{"a set in a set", in("S", "T"), fault(api.ErrName, 0)},
		{"a name of true", part(api.FTrue, "x", ""), fault(api.ErrName, 0)},
		{"a second name of false", part(api.FFalse, "", "x"), fault(api.ErrName, 0)},
		{"a name of and", part(api.FAnd, "x", "", yes(), yes()), fault(api.ErrName, 0)},
		{"a second name of all", part(api.FAll, "x", "y", yes()), fault(api.ErrName, 0)},
		{"no name of some", part(api.FSome, "", "", yes()), fault(api.ErrName, 0)},
		{"the first Kid ahead of the second", and(not(in("x", "y")), api.Formula{}), fault(api.ErrName, 2)},
		{"the second Kid behind all of the first", and(and(yes(), not(yes())), api.Formula{}), fault(api.ErrKind, 5)},
		{"the last of many", row(or, false, part(12, "", ""), yes(), no(), near("x", "y")), fault(api.ErrKind, 6)},
		{"the last of many, to the left", row(or, true, yes(), no(), near("x", "y"), part(12, "", "")), fault(api.ErrKind, 6)},
	} {
		wantChecked(t, w.name, w.f, w.want)
	}
}

func TestCheckOfNames(t *testing.T) {
	nodes := []string{"x", "z", "x1", "x1y2", "xAB", "notx", "inx", "alls", "true1", "ж", "жЖ9", "é", "ß", "語", "א", "ª", "ʰ", "x٣", "x०", "ǅ", "ǆ", "𝐚"}
	sets := []string{"S", "Z", "S1", "Sx", "All", "NOT", "In", "True", "Ж", "Жук", "É", "Ω", "Ａ", "𝐀", "Ǆ"}
	none := []string{"", " ", "1", "1x", "٣x", "x ", " x", "x y", "x\n", "x~", "(x)", "x²", "Ⅷ", "xⅧ", "x\u0301", "\u0301x", "_x", "x_", "x-", "x\x00", "\xff", "x\xff", "S\xc3", "\ufffd", "x\ufffd", "all", "some", "not", "and", "or", "in", "true", "false", "x\u00a0", "😀"}
	for _, s := range nodes {
		wantNamed(t, s, "node")
	}
	for _, s := range sets {
		wantNamed(t, s, "set")
	}
	for _, s := range none {
		wantNamed(t, s, "")
	}
}

// wantNamed puts a text wherever a name may stand.
func wantNamed(t *testing.T, text, kind string) {
	t.Helper()
	if got := kindOfName(text); got != kind {
		t.Errorf("the second account of %q is %q, want %q", text, got, kind)
	}
	for _, w := range []struct {
		f  api.Formula
		ok bool
	}{
		{near(text, "x"), kind == "node"}, {near("x", text), kind == "node"}, {is(text, "x"), kind == "node"}, {is("x", text), kind == "node"},
		{in(text, "S"), kind == "node"}, {in("x", text), kind == "set"}, {all(text, yes()), kind != ""}, {some(text, yes()), kind != ""},
		{part(api.FTrue, text, ""), text == ""}, {part(api.FNot, "", text, yes()), text == ""}, {part(api.FAll, "x", text, yes()), text == ""},
	} {
		want := api.Fault{}
		if !w.ok {
			want = fault(api.ErrName, 0)
		}
		if got := logic.Check(w.f); got != want {
			t.Errorf("Check of %+v: %v, want %v", w.f, got, want)
		}
	}
}

func TestCheckOfManyParts(t *testing.T) {
	leaves := func(many int, last api.Formula) []api.Formula {
		l := []api.Formula{last}
		for range many - 1 {
			l = append(l, yes())
		}
		return l
	}
	wrong := part(12, "", "")
	many, none := fault(api.ErrMany, 0), api.Fault{}
	for _, w := range []struct {
		name string
		f    api.Formula
		want api.Fault
	}{
		{"200 within one another", times(199, yes(), not), none},
		{"201 within one another", times(200, yes(), not), many},
		{"5000 within one another", times(5000, yes(), not), many},
		{"199 in a row", row(and, false, leaves(100, yes())...), none},
		{"200 in a row", not(row(and, false, leaves(100, yes())...)), none},
		{"200 in a row, to the left", not(row(then, true, leaves(100, yes())...)), none},
		{"201 in a row", row(and, false, leaves(101, yes())...), many},
		{"201 in a row, to the left", row(or, true, leaves(101, yes())...), many},
		{"the 200th is wrong", times(199, wrong, not), fault(api.ErrKind, 199)},
		{"the 201st is wrong", times(200, wrong, not), many},
		{"the last of 199 in a row is wrong", row(and, false, leaves(100, wrong)...), fault(api.ErrKind, 198)},
		{"the last of 201 in a row is wrong", row(and, false, leaves(101, wrong)...), many},
		// the parts are gone through in order, and what is wrong ahead of one more than may be is met first
		{"the second of many is wrong", and(wrong, times(300, yes(), not)), fault(api.ErrKind, 1)},
		{"too many Kids", part(api.FAnd, "", "", make([]api.Formula, 100000)...), fault(api.ErrSize, 0)},
	} {
		wantChecked(t, w.name, w.f, w.want)
	}
}

// A formula whose Kids lead back to it has more parts than may be.
func TestCheckOfRings(t *testing.T) {
	one := not(yes())
	one.Kids[0] = one
	two := and(yes(), yes())
	two.Kids[0], two.Kids[1] = two, two
	late := and(yes(), yes())
	late.Kids[1] = all("x", late)
	for _, f := range []api.Formula{one, two, late} {
		if got := logic.Check(f); got != fault(api.ErrMany, 0) {
			t.Errorf("Check of a ring: %v", got)
		}
		if s, got := logic.Print(f); s != "" || got != fault(api.ErrMany, 0) {
			t.Errorf("Print of a ring: %q %v", s, got)
		}
		if l, got := logic.Free(f); len(l) > 0 || got != fault(api.ErrMany, 0) {
			t.Errorf("Free of a ring: %v %v", l, got)
		}
		if l, got := logic.Ask(of(1), f); len(l) > 0 || got != fault(api.ErrMany, 0) {
			t.Errorf("Ask of a ring: %v %v", l, got)
		}
	}
}

func TestCheckOfWildFormulas(t *testing.T) {
	seen := map[int]int{}
	for seed := range 20000 {
		f := wild(drawFrom(seed), seed%12)
		if seed%5 == 0 {
			f = times(seed%220, f, not)
		}
		want := wantCheck(f)
		seen[want.Code]++
		wantChecked(t, short(f), f, want)
	}
	for _, code := range []int{api.OK, api.ErrMany, api.ErrKind, api.ErrSize, api.ErrName} {
		if seen[code] == 0 {
			t.Errorf("code %d did not come up: %v", code, seen)
		}
	}
}

func TestCheckOfGrownFormulas(t *testing.T) {
	for seed := range 3000 {
		draw := drawFrom(seed)
		f := grown(draw, 1+seed%230, 1+seed%20, []string{"x", "y", "ж"}, []string{"S", "Ж"})
		wantChecked(t, short(f), f, wantCheck(f))
	}
}
