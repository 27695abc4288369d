package logic_test

import (
	"strings"
	"testing"

	"arbor/api"
	"arbor/logic"
)

func TestPrintFormulas(t *testing.T) {
	x, y := near("x", "y"), is("x", "y")
	for want, f := range map[string]api.Formula{
		"true":                               yes(),
		"false":                              no(),
		"x ~ y":                              x,
		"x = y":                              y,
		"x in X":                             in("x", "X"),
		"not x ~ y":                          not(x),
		"not not x = y":                      not(not(y)),
		"not (x ~ y and x = y)":              not(and(x, y)),
		"(x ~ y and x = y)":                  and(x, y),
		"(x ~ y or x = y)":                   or(x, y),
		"(x ~ y -> x = y)":                   then(x, y),
		"((x ~ y and x = y) or not true)":    or(and(x, y), not(yes())),
		"(true and (true and true))":         and(yes(), and(yes(), yes())),
		"((true and true) and true)":         and(and(yes(), yes()), yes()),
		"(all x: x ~ y)":                     all("x", x),
		"(some S: x ~ y)":                    some("S", x),
		"(all x: (all y: (x ~ y -> false)))": all("x", all("y", then(x, no()))),
		"((some x: true) -> not (all ж9: x ~ y))": then(some("x", yes()), not(all("ж9", x))),
	} {
		if s, f := logic.Print(f); s != want || f != (api.Fault{}) {
			t.Errorf("Print: %q %v, want %q", s, f, want)
		}
	}
}

func TestPrintGrownFormulas(t *testing.T) {
	back := 0
	for seed := range 4000 {
		draw := drawFrom(seed)
		f := grown(draw, 1+seed%215, 1+seed%9, []string{"x", "y", "ж", "notx"}, []string{"S", "Жук"})
		want, wantF := wantPrint(f)
		s, got := logic.Print(f)
		if s != want || got != wantF {
			t.Errorf("Print of %s: %q %v, want %q %v", short(f), s, got, want, wantF)
		}
		if again, fault := logic.Read(s); got == (api.Fault{}) && fault == (api.Fault{}) {
			back++
			if !same(again, f) {
				t.Errorf("Read of %q: %s, want %s", s, short(again), short(f))
			}
		}
	}
	if back < 3400 {
		t.Errorf("only %d were read again", back)
	}
}

func TestPrintLongFormulas(t *testing.T) {
	most := api.MaxText
	long := func(size int) string { return strings.Repeat("x", size) }
	many := fault(api.ErrMany, 0)
	for _, w := range []struct {
		name string
		f    api.Formula
		want api.Fault
	}{
		{"at the limit", near(long(most-4), "y"), fault(0, 0)},
		{"one more", near(long(most-3), "y"), many},
		{"the second name at the limit", in("x", "S"+long(most-6)), fault(0, 0)},
		{"the second name, one more", in("x", "S"+long(most-5)), many},
		{"bytes are counted, not runes", is(strings.Repeat("ж", most/2-2), "y"), fault(0, 0)},
		{"bytes are counted, not runes, one more", is(strings.Repeat("ж", most/2-2), "yy"), many},
		{"the last bracket at the limit", all(long(most-len("(all : true)")), yes()), fault(0, 0)},
		{"the last bracket is one more", all(long(most-len("(all : true)")+1), yes()), many},
		{"too long ahead, and short behind", and(near(long(most), "y"), yes()), many},
		{"short ahead, and too long behind", and(yes(), near("y", long(most))), many},
		{"many long names", row(or, true, near(long(9000), "y"), near("y", long(9000)), near("y", "y"), near("y", long(1965))), fault(0, 0)},
		{"many long names, one more", row(or, true, near(long(9000), "y"), near("y", long(9000)), near("y", "y"), near("y", long(1966))), many},
		{"one long name in many parts", times(30, yes(), func(f api.Formula) api.Formula { return all(long(100000), f) }), many},
		{"what Check tells is ahead of it", and(near(long(most), "y"), part(12, "", "")), fault(api.ErrKind, 2)},
	} {
		want, wantF := wantPrint(w.f)
		if s, f := logic.Print(w.f); f != w.want || wantF != w.want || s != want {
			t.Errorf("%s: %s %v, want %s %v %v", w.name, short(s), f, short(want), wantF, w.want)
		}
	}
}
