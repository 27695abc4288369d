package logic_test

import (
	"slices"
	"strings"
	"testing"

	"arbor/api"
	"arbor/logic"
)

func TestFreeOfTexts(t *testing.T) {
	for s, want := range map[string]string{
		"true":                                   "",
		"x ~ ж":                                  "x ж",
		"y ~ x":                                  "x y",
		"x ~ x":                                  "x",
		"x = y":                                  "x y",
		"x in S":                                 "S x",
		"not x in S":                             "S x",
		"all x: x ~ y":                           "y",
		"some y: x ~ y":                          "x",
		"all x y: x ~ y":                         "",
		"all S: x in S":                          "x",
		"some x: x in S":                         "S",
		"all x: true":                            "",
		"all x: y = y":                           "y",
		"x ~ y and (all y: y = z)":               "x y z",
		"(all y: y = z) and x ~ y":               "x y z",
		"(all y: y = y) -> x ~ x":                "x",
		"all x: x ~ y -> (some y: x ~ y)":        "y",
		"some x: all x: x ~ x":                   "",
		"(some x: x ~ x) or (all x: x = x)":      "",
		"(some x: all y: x ~ y) or y = y":        "y",
		"b ~ a or ab ~ b1 or a in B1 or a in Ab": "Ab B1 a ab b b1",
		"ж ~ é and z = 語 and ǅ ~ x":              "x z é ǅ ж 語",
		"not (true or x ~ y and z = z -> w in W)": "W w x y z",
	} {
		if l, f := logic.Free(read(t, s)); f != (api.Fault{}) || strings.Join(l, " ") != want {
			t.Errorf("Free of %q: %v %v, want %s", s, l, f, want)
		}
	}
}

func TestFreeOfGrownFormulas(t *testing.T) {
	sizes := map[int]int{}
	for seed := range 6000 {
		draw := drawFrom(seed)
		f := grown(draw, 1+seed%205, 1+seed%9, []string{"x", "y", "z", "xy", "ж", "é", "x1"}, []string{"S", "T", "Жук"})
		want, wantF := wantFree(f)
		got, fault := logic.Free(f)
		if !slices.Equal(got, want) || fault != wantF {
			t.Errorf("Free of %s: %v %v, want %v %v", short(f), got, fault, want, wantF)
		}
		sizes[len(got)]++
	}
	if len(sizes) < 9 {
		t.Errorf("so many names were free: %v", sizes)
	}
}

// As many names as a formula has room for.
func TestFreeOfManyNames(t *testing.T) {
	var l []api.Formula
	var want []string
	for i := range 100 {
		a, b := "x"+strings.Repeat("y", 99-i), "é"+strings.Repeat("é", i)
		l, want = append(l, near(a, b)), append(want, a, b)
	}
	slices.Sort(want)
	if got, f := logic.Free(row(and, true, l...)); f != (api.Fault{}) || !slices.Equal(got, want) {
		t.Errorf("%v %v, want %v", got, f, want)
	}
	if got, f := logic.Free(times(100, near("x", "y"), func(f api.Formula) api.Formula { return all("x", f) })); f != (api.Fault{}) || !slices.Equal(got, []string{"y"}) {
		t.Errorf("%v %v, want y", got, f)
	}
}
