package logic_test

import (
	"strings"
	"testing"

	"arbor/api"
	"arbor/logic"
)

func wantReading(t *testing.T, s string) {
	t.Helper()
	want, wantF := wantRead(s)
	if got, f := logic.Read(s); f != wantF || !same(got, want) {
		t.Errorf("Read of %s: %s %v, want %s %v", short(s), short(got), f, short(want), wantF)
	}
}

func TestReadFormulas(t *testing.T) {
	x, y, a, b, c := near("x", "y"), is("x", "y"), near("a", "a"), near("b", "b"), near("c", "c")
	for s, want := range map[string]api.Formula{
		"true":                            yes(),
		"false":                           no(),
		"x ~ y":                           x,
		"x=y":                             y,
		"x in S":                          in("x", "S"),
		" \n x\n~\n\ny \n":                x,
		"not x ~ y":                       not(x),
		"not not true":                    not(not(yes())),
		"a ~ a and b ~ b and c ~ c":       and(and(a, b), c),
		"a ~ a or b ~ b or c ~ c":         or(or(a, b), c),
		"a ~ a -> b ~ b -> c ~ c":         then(a, then(b, c)),
		"(a ~ a -> b ~ b) -> c ~ c":       then(then(a, b), c),
		"a ~ a and (b ~ b and c ~ c)":     and(a, and(b, c)),
		"a ~ a or (b ~ b or c ~ c)":       or(a, or(b, c)),
		"a ~ a or b ~ b and c ~ c":        or(a, and(b, c)),
		"a ~ a and b ~ b or c ~ c":        or(and(a, b), c),
		"(a ~ a or b ~ b) and c ~ c":      and(or(a, b), c),
		"a ~ a or b ~ b -> c ~ c":         then(or(a, b), c),
		"a ~ a -> b ~ b or c ~ c":         then(a, or(b, c)),
		"not a ~ a and b ~ b":             and(not(a), b),
		"not(a~a and b~b)":                not(and(a, b)),
		"all x: x ~ y":                    all("x", x),
		"some x: x ~ y":                   some("x", x),
		"all x y: x ~ y":                  all("x", all("y", x)),
		"some x S y: x ~ y":               some("x", some("S", some("y", x))),
		"all x x: x ~ y":                  all("x", all("x", x)),
		"all x: some y: x ~ y":            all("x", some("y", x)),
		"all x: a ~ a -> b ~ b":           all("x", then(a, b)),
		"all x: a ~ a and b ~ b":          all("x", and(a, b)),
		"(all x: a ~ a) and b ~ b":        and(all("x", a), b),
		"a ~ a -> all x: b ~ b -> c ~ c":  then(a, all("x", then(b, c))),
		"not(some S:true)":                not(some("S", yes())),
		"((((true))))":                    yes(),
		"some S: ж in S":                  some("S", in("ж", "S")),
		"notx ~ inn":                      near("notx", "inn"),
		"all All: true1 in All":           all("All", in("true1", "All")),
		"x~y->y=x":                        then(x, is("y", "x")),
		"x1 ~ x٣ and 語 in Ａ":              and(near("x1", "x٣"), in("語", "Ａ")),
		"true and false or true -> false": then(or(and(yes(), no()), yes()), no()),
	} {
		if got, f := logic.Read(s); f != (api.Fault{}) || !same(got, want) {
			t.Errorf("Read of %q: %+v %v, want %+v", s, got, f, want)
		}
		wantReading(t, s)
	}
}

func TestReadTextsThatAreWrong(t *testing.T) {
	for s, at := range map[string]int{
		"": 0, " ": 1, "\n\n  ": 4, "x": 1, "x ": 2, "x ~": 3, "x ~ ": 4, "x in": 4, "x =\n": 4,
		"all": 3, "all x": 5, "all x:": 6, "all x: ": 7, "all:": 3, "all : true": 4, "all x true": 6, "all x, y: true": 5, "all x y z": 9,
		"all all: true": 4, "some in: true": 5, "all not: true": 4, "all x: y: true": 8, "all (x): true": 4, "all x ~ y": 6, "some x not true": 7,
		"x in y": 5, "x ~ S": 4, "S ~ x": 0, "x = S": 4, "S = x": 0, "S in T": 0, "S in x": 0, "x ~ y ~ z": 6, "x not in S": 2, "x ~ not": 4, "x = true": 4, "x in in": 5, "x in All ~": 9,
		"true)": 4, "(true": 5, "( true ) )": 9, "()": 1, "(": 1, ")": 0, "true true": 5, "true x": 5, "not": 3, "not not": 7, "not )": 4,
		"and": 0, "or true": 0, "true and": 8, "true or": 7, "true and or true": 9, "true or and true": 8, "true and all x: true": 9, "true or some x: true": 8, "not all x: true": 4,
		"->": 0, "true ->": 7, "true -> -> true": 8, "true -> )": 8, "-> true": 0, "true : true": 5, ":": 0, "~": 0, "x ~ ~ y": 4, "= x": 0, "x = = y": 4,
		"true (": 5, "x (y)": 2, "true not true": 5, "false in S": 6, "x y": 2, "x all": 2, "in x": 0, "(x ~ y": 6, "(x ~ y]": 6, "(all x: true": 12,
		// a byte that begins no token is told ahead of all else
		"x - y": 2, "true) -": 6, ") \xff": 2, "x ~ \xff": 4, "x ~ y\xff": 5, "\xff": 0, "x\ty": 1, "true\r\n": 4, "x ~ 1": 4, "1x ~ y": 0, "x ~ y1 2": 7, "x - > y": 2, "->-": 2, "-": 0, "x -": 2, ">": 0, "x > y": 2,
		"x² ~ y": 1, "x\u0301 ~ y": 1, "x\u00a0~ y": 1, "x_1 ~ y": 1, "ж ~ \u0301": 5, "S ~ x & y": 6, "\x00": 0, "x ~ \ufffd": 4, "x ~ \xed\xa0\x80": 4, "x ~ \xc1\x81": 4, "ж\xd0": 2, "Ⅷ": 0, "٣": 0, "true.": 4, "all x. true": 5, "x != y": 2, "\ufefftrue": 0,
	} {
		if got, f := logic.Read(s); f != fault(api.ErrText, at) || !isZero(got) {
			t.Errorf("Read of %q: %+v %v, want nothing and ErrText at %d", s, got, f, at)
		}
		if f := wantReadFault(s); f != fault(api.ErrText, at) {
			t.Errorf("the second account of %q is %v, want ErrText at %d", s, f, at)
		}
	}
}

// All rows of tokens with which a text can go on, up to a length, each with every token behind it: those that go on, and those that do not.
func TestReadAllShortTexts(t *testing.T) {
	alphabet := []string{"all", "some", "not", "and", "or", "in", "true", "false", "x", "S", "~", "=", ":", "(", ")", "->"}
	tried := 0
	var try func(s string, ways []*rest, left int)
	try = func(s string, ways []*rest, left int) {
		tried++
		wantReading(t, s)
		for _, token := range alphabet {
			next, _ := goOn(ways, token)
			if next == nil {
				for _, behind := range []string{"", " true", ") ("} {
					if got, f := logic.Read(s + token + behind); f != fault(api.ErrText, len(s)) || !isZero(got) {
						t.Errorf("Read of %q: %+v %v, want ErrText at %d", s+token+behind, got, f, len(s))
					}
				}
			} else if left > 0 {
				try(s+token+" ", next, left-1)
			}
		}
	}
	try("", atStart(), 6)
	if tried < 8000 {
		t.Errorf("only %d texts", tried)
	}
}

// All short texts of a few bytes.
func TestReadAllShortRowsOfBytes(t *testing.T) {
	alphabet := "xS1 ~->:(\xd0\xb6\n"
	var try func(s string, left int)
	try = func(s string, left int) {
		wantReading(t, s)
		for i := range len(alphabet) {
			if left > 0 {
				try(s+alphabet[i:i+1], left-1)
			}
		}
	}
	try("", 4)
}

// written answers the tokens of a formula with brackets only where they are wanted, and some where they are not.
func written(draw func(n int) int, f api.Formula) []string {
	// how tightly what is written holds together: 0 a formula, 1 an either, 2 a both, 3 a not
	var write func(f api.Formula, wanted int) []string
	write = func(f api.Formula, wanted int) []string {
		var l []string
		holds := 3
		switch f.Kind {
		case api.FTrue:
			l = []string{"true"}
		case api.FFalse:
			l = []string{"false"}
		case api.FNear:
			l = []string{f.A, "~", f.B}
		case api.FSame:
			l = []string{f.A, "=", f.B}
		case api.FIn:
			l = []string{f.A, "in", f.B}
		case api.FNot:
			l = append([]string{"not"}, write(f.Kids[0], 3)...)
		case api.FAnd:
			holds, l = 2, append(append(write(f.Kids[0], 2), "and"), write(f.Kids[1], 3)...)
		case api.FOr:
			holds, l = 1, append(append(write(f.Kids[0], 1), "or"), write(f.Kids[1], 2)...)
		case api.FThen:
			holds, l = 0, append(append(write(f.Kids[0], 1), "->"), write(f.Kids[1], 0)...)
		case api.FAll, api.FSome:
			holds, l = 0, boundTokens(draw, f, func(f api.Formula) []string { return write(f, 0) })
		}
		if holds < wanted || draw(12) == 0 {
			l = append(append([]string{"("}, l...), ")")
		}
		return l
	}
	return write(f, 0)
}

// boundTokens writes several names that are bound in the same way behind one word, now and then.
func boundTokens(draw func(n int) int, f api.Formula, write func(f api.Formula) []string) []string {
	word := map[int]string{api.FAll: "all", api.FSome: "some"}[f.Kind]
	l := []string{word, f.A}
	kid := f.Kids[0]
	for kid.Kind == f.Kind && draw(3) > 0 {
		l, kid = append(l, kid.A), kid.Kids[0]
	}
	return append(append(l, ":"), write(kid)...)
}

func TestReadWhatIsWritten(t *testing.T) {
	fine := 0
	for seed := range 4000 {
		draw := drawFrom(seed)
		f := grown(draw, 1+seed%90, 1+seed%7, []string{"x", "y", "ж", "語2", "notx"}, []string{"S", "Ж1"})
		s := spaced(draw, written(draw, f))
		got, fault := logic.Read(s)
		if _, want := wantRead(s); fault != want || fault.Code == api.OK && !same(got, f) {
			t.Errorf("Read of %s: %s %v, want %s %v", short(s), short(got), fault, short(f), want)
		}
		if fault.Code == api.OK {
			fine++
		}
	}
	if fine < 3900 {
		t.Errorf("only %d texts were read", fine)
	}
}

// Texts with a token, or a byte, that is changed, left out or added.
func TestReadChangedTexts(t *testing.T) {
	words := []string{"all", "some", "not", "and", "or", "in", "true", "false", "x", "S", "ж", "~", "=", ":", "(", ")", "->", "Ж"}
	odd := []string{"", " ", "\n", "-", ">", "1", "\xff", "\xd0", "_", "\t", "x", "S", "~", "->", "(", ")", "²", "."}
	for seed := range 6000 {
		draw := drawFrom(seed)
		f := grown(draw, 1+seed%25, 1+seed%5, []string{"x", "ж"}, []string{"S", "Ж"})
		l := written(draw, f)
		for range 1 + draw(2) {
			at := draw(len(l))
			switch draw(3) {
			case 0:
				l[at] = words[draw(len(words))]
			case 1:
				l = append(l[:at:at], l[at+1:]...)
			case 2:
				l = append(append(l[:at:at], words[draw(len(words))]), l[at:]...)
			}
			if len(l) == 0 {
				l = []string{"true"}
			}
		}
		s := spaced(draw, l)
		wantReading(t, s)
		at := draw(len(s) + 1)
		wantReading(t, s[:at])
		wantReading(t, s[:at]+odd[draw(len(odd))]+s[at:])
		wantReading(t, s[:at]+odd[draw(len(odd))]+s[min(at+1, len(s)):])
	}
}

func TestReadLongTexts(t *testing.T) {
	most := api.MaxText
	long := strings.Repeat("x", most-len(" ~ y"))
	for _, w := range []struct {
		name, s string
		want    api.Fault
	}{
		{"spaces at the limit", "true" + strings.Repeat(" ", most-4), fault(0, 0)},
		{"one space too many", "true" + strings.Repeat(" ", most-3), fault(api.ErrMany, 0)},
		{"nothing but spaces", strings.Repeat(" ", most), fault(api.ErrText, most)},
		{"nothing but spaces, one too many", strings.Repeat("\n", most+1), fault(api.ErrMany, 0)},
		{"a long name", long + " ~ y", fault(0, 0)},
		{"a longer name", long + "x ~ y", fault(api.ErrMany, 0)},
		{"bytes are counted, not runes", strings.Repeat("ж", (most-4)/2) + " ~ y", fault(0, 0)},
		{"bytes are counted, not runes, one too many", strings.Repeat("ж", (most-4)/2) + " ~ yy", fault(api.ErrMany, 0)},
		{"many ahead of what is wrong at once", "\xff" + strings.Repeat("\xff", most), fault(api.ErrMany, 0)},
		{"what is wrong at the last byte", "true)" + strings.Repeat(" ", most-6) + "-", fault(api.ErrText, most-1)},
		{"much longer", strings.Repeat("true or ", 100000) + "true", fault(api.ErrMany, 0)},
	} {
		if _, f := logic.Read(w.s); f != w.want {
			t.Errorf("%s: %v, want %v", w.name, f, w.want)
		}
		wantReading(t, w.s)
	}
}

// nested has ahead, so many times, then what is within, then behind, as often.
func nested(many int, ahead, within, behind string) string {
	return strings.Repeat(ahead, many) + within + strings.Repeat(behind, many)
}

func TestReadDeepTexts(t *testing.T) {
	many, none := fault(api.ErrMany, 0), api.Fault{}
	text := func(at int) api.Fault { return fault(api.ErrText, at) }
	for _, w := range []struct {
		name, s string
		want    api.Fault
	}{
		{"198 nots", nested(198, "not ", "true", ""), none},
		{"199 nots", nested(199, "not ", "true", ""), many},
		{"199 nots, and the end", nested(199, "not ", "", ""), many},
		{"198 nots, and the end", nested(198, "not ", "", ""), text(198 * 4)},
		{"199 nots, and what may not stand there", nested(199, "not ", ")", ""), many},
		{"198 nots, and what may not stand there", nested(198, "not ", ") not", ""), text(198 * 4)},
		{"a fault ahead of too many nots", "true " + nested(300, "not ", "true", ""), text(5)},
		{"a fault in too many nots", nested(198, "not ", "true true", "") + nested(300, " not", "", ""), text(198*4 + 5)},
		{"a fault behind too many nots", nested(199, "not ", "true", "") + ")", many},
		{"a fault of bytes behind too many nots", nested(199, "not ", "true", "") + "-", text(199*4 + 4)},
		{"99 brackets", nested(99, "(", "true", ")"), none},
		{"100 brackets", nested(100, "(", "true", ")"), many},
		{"99 brackets and a not", nested(99, "(", "not true", ")"), many},
		{"99 brackets, not closed", nested(99, "(", "true", ""), text(99 + 4)},
		{"99 brackets, closed too often", nested(99, "(", "true", ")") + ")", text(2*99 + 4)},
		{"100 brackets, not closed", nested(100, "(", "true", ""), many},
		{"100 brackets, and the end", nested(100, "(", "", ""), many},
		{"99 brackets, and the end", nested(99, "(", "", ""), text(99)},
		{"99 brackets, and what may not stand there", nested(99, "(", ")", ""), text(99)},
		{"99 brackets in a not", "not " + nested(99, "(", "true", ")"), many},
		{"99 brackets, and some more behind them", nested(99, "(", "true", ")") + " and " + nested(99, "(", "true", ")"), none},
		{"98 brackets, and a -> in them", nested(98, "(", "true -> true", ")"), none},
		{"99 brackets, and a -> in them", nested(99, "(", "true -> true", ")"), many},
		{"99 brackets, and a -> behind them", nested(99, "(", "true", ")") + " -> true", none},
		{"99 brackets behind a ->", "true -> " + nested(99, "(", "true", ")"), many},
		{"98 brackets behind a ->", "true -> " + nested(98, "(", "true", ")"), none},
		{"99 brackets with or and and", nested(99, "(", "true or true and true", ")"), none},
		{"198 names bound", nested(198, "all x: ", "true", ""), none},
		{"199 names bound", nested(199, "all x: ", "true", ""), many},
		{"199 names bound, and a name bound", nested(199, "all x: ", "some y: true", ""), many},
		{"199 names bound, and a fault where a name is", nested(199, "all x: ", "some ~", ""), text(199*7 + 5)},
		{"199 names bound, and a name, and the end", nested(199, "all x: ", "some y", ""), text(199*7 + 6)},
		{"199 names bound, and the end", nested(199, "all x: ", "", ""), many},
		{"199 names bound, and what may not stand there", nested(199, "all x: ", ")", ""), many},
		{"198 names bound, and the end", nested(198, "all x: ", "", ""), text(198 * 7)},
		{"199 names bound by one word", "all " + nested(199, "x ", ": true", ""), none},
		{"200 names bound by one word", "all " + nested(200, "x ", ": true", ""), many},
		{"200 names bound by one word, and a fault", "all " + nested(200, "x ", ": true true", ""), text(4 + 2*200 + 7)},
		{"100 names bound by one word, 99 nots", "all " + nested(100, "x ", ": ", "") + nested(99, "not ", "true", ""), none},
		{"99 ->", nested(99, "true -> ", "true", ""), none},
		{"100 ->", nested(100, "true -> ", "true", ""), many},
		{"100 ->, and a fault", nested(100, "true -> ", "true )", ""), text(100*8 + 5)},
		{"198 ->, and the end", nested(198, "true -> ", "", ""), text(198 * 8)},
		{"198 ->, and a fault", nested(198, "true -> ", "true )", ""), text(198*8 + 5)},
		{"199 ->, and the end", nested(199, "true -> ", "", ""), many},
		{"199 ->, and a fault", nested(199, "true -> ", "true )", ""), many},
		{"199 ->, and what may stand there", nested(199, "true -> ", "all x", ""), text(199*8 + 5)},
		{"200 ->, and what may stand there", nested(200, "true -> ", "all x", ""), many},
		{"99 and", nested(99, "true and ", "true", ""), none},
		{"100 and", nested(100, "true and ", "true", ""), many},
		{"99 and, 1 not", nested(99, "true and ", "not true", ""), none},
		{"99 or, 2 nots", nested(99, "x in S or ", "not not true", ""), many},
		{"2000 and", nested(2000, "true and ", "true", ""), many},
		{"2000 or, and a fault", nested(2000, "true or ", "true true", ""), text(2000*8 + 5)},
		{"2000 or, and the end", nested(2000, "true or ", "", ""), text(2000 * 8)},
		{"9999 brackets", nested(9999, "(", "x", ")"), many},
		{"9999 brackets, and a fault ahead", "(true true" + nested(9000, "(", "x", ")"), text(6)},
	} {
		if got, f := logic.Read(w.s); f != w.want || f.Code != api.OK && !isZero(got) {
			t.Errorf("%s: %s %v, want %v", w.name, short(got), f, w.want)
		}
		wantReading(t, w.s)
	}
}

// deepTokens answers the tokens of a text that goes so deep, in all ways, and what closes its brackets.
func deepTokens(draw func(n int) int, most int) (l, behind []string) {
	// within counts the formula, or the not, that must come next, too
	within, isNot := 1, false
	for within < most {
		way := draw(4)
		if isNot {
			way = draw(2)
		}
		if way < 2 && !isNot {
			within++
		}
		switch way {
		case 0:
			l, isNot = append(l, "not"), true
		case 1:
			l, behind, isNot = append(l, "("), append(behind, ")"), false
		case 2:
			l = append(l, "true", "->")
		case 3:
			l = append(l, "all", "x", ":")
		}
		within++
	}
	return l, behind
}

func TestReadMixedDeepTexts(t *testing.T) {
	tails := [][]string{{"true"}, {"x", "~", "x"}, {"not", "true"}, {")"}, {}, {"all", "x"}, {"S"}, {"true", "true"}}
	seen := map[int]int{}
	for seed := range 1500 {
		draw := drawFrom(seed)
		l, behind := deepTokens(draw, api.MaxParts-3+seed%6)
		s := strings.Join(append(append(l, tails[draw(len(tails))]...), behind...), " ")
		seen[wantReadFault(s).Code]++
		wantReading(t, s)
	}
	for _, code := range []int{api.OK, api.ErrMany, api.ErrText} {
		if seen[code] < 100 {
			t.Errorf("code %d came up too seldom: %v", code, seen)
		}
	}
}
