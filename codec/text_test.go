package codec_test

import (
	"regexp"
	"strconv"
	"strings"
	"testing"

	"arbor/api"
	"arbor/codec"
	"arbor/graph"
)

// wantPrinted writes the edges as they stand.
func wantPrinted(g api.Graph) string {
	words := []string{strconv.Itoa(g.N) + ":"}
	for _, e := range g.Edges {
		words = append(words, strconv.Itoa(e[0])+"-"+strconv.Itoa(e[1]))
	}
	return strings.Join(words, " ") + "\n"
}

func TestPrintKnownGraphs(t *testing.T) {
	for _, x := range []struct {
		g    api.Graph
		want string
	}{
		{of(0), "0:\n"},
		{of(1), "1:\n"},
		{of(3, 0, 1, 1, 2), "3: 0-1 1-2\n"},
		{of(3, 2, 1, 0, 1), "3: 0-1 1-2\n"},
		{of(12, 11, 10, 2, 10, 2, 9), "12: 2-9 2-10 10-11\n"},
		{of(100, 99, 0), "100: 0-99\n"},
	} {
		s, f := codec.Print(x.g)
		wantText(t, "Print", s, f, x.want)
	}
}

func TestPrintAndReadGoThereAndBack(t *testing.T) {
	for _, g := range many() {
		want := wantPrinted(g)
		s, f := codec.Print(g)
		wantText(t, "Print", s, f, want)
		s, f = codec.Print(scrambled(g))
		wantText(t, "Print scrambled", s, f, want)
		back, f := codec.Read(want)
		wantGraph(t, "Read "+short(want), back, f, g)
		back, f = codec.Read(wantPrinted(scrambled(g)))
		wantGraph(t, "Read "+short(wantPrinted(scrambled(g))), back, f, g)
	}
}

// edges writes k edges 0-1, four bytes each.
func edges(k int) string { return strings.Repeat(" 0-1", k) }

func TestReadFaultsOfTheText(t *testing.T) {
	for _, x := range []struct {
		s    string
		want api.Fault
	}{
		// More than MaxText bytes, ahead of all else.
		{"10:" + edges(4999) + "\n\n", fault(api.ErrMany, 0)},
		{strings.Repeat("x", api.MaxText+1), fault(api.ErrMany, 0)},
		{strings.Repeat("1", api.MaxText+1), fault(api.ErrMany, 0)},
		{"10:" + edges(4999) + "x", fault(api.ErrText, api.MaxText-1)},
		{"100:" + edges(4999), fault(api.ErrText, api.MaxText)},
		{"2: 0-" + strings.Repeat("1", api.MaxText-5), fault(api.ErrText, 5)},
		{"2:\n" + strings.Repeat("\n", api.MaxText-3), fault(api.ErrText, 3)},

		// It ends too early.
		{"", fault(api.ErrText, 0)},
		{"2", fault(api.ErrText, 1)},
		{"100", fault(api.ErrText, 3)},
		{"2:", fault(api.ErrText, 2)},
		{"2: ", fault(api.ErrText, 3)},
		{"2: 0", fault(api.ErrText, 4)},
		{"2: 0-", fault(api.ErrText, 5)},
		{"2: 0-1", fault(api.ErrText, 6)},
		{"2: 0-1 ", fault(api.ErrText, 7)},

		// It goes on too long.
		{"2:\n\n", fault(api.ErrText, 3)},
		{"2:\n ", fault(api.ErrText, 3)},
		{"2:\n0-1\n", fault(api.ErrText, 3)},
		{"2: 0-1\n2:\n", fault(api.ErrText, 7)},
		{"2: 0-1\n\x00", fault(api.ErrText, 7)},

		// Numbers of other forms.
		{"02:\n", fault(api.ErrText, 0)},
		{"00:\n", fault(api.ErrText, 0)},
		{"000", fault(api.ErrText, 0)},
		{"1000:\n", fault(api.ErrText, 0)},
		{"1000", fault(api.ErrText, 0)},
		{"1000x", fault(api.ErrText, 0)},
		{"01x", fault(api.ErrText, 0)},
		{"99999999999999999999999:\n", fault(api.ErrText, 0)},
		{"-1:\n", fault(api.ErrText, 0)},
		{"+1:\n", fault(api.ErrText, 0)},
		{"1_0:\n", fault(api.ErrText, 1)},
		{"0x1:\n", fault(api.ErrText, 1)},
		{"\uff12:\n", fault(api.ErrText, 0)},
		{"2\u0663:\n", fault(api.ErrText, 1)},
		{":\n", fault(api.ErrText, 0)},
		{"2: 0-01\n", fault(api.ErrText, 5)},
		{"2: 0-01", fault(api.ErrText, 5)},
		{"2: 00-1\n", fault(api.ErrText, 3)},
		{"2: 1000-1\n", fault(api.ErrText, 3)},
		{"2: 0-1000\n", fault(api.ErrText, 5)},
		{"2: 0-1 01-0\n", fault(api.ErrText, 7)},
		{"2: -1-0\n", fault(api.ErrText, 3)},
		{"2: 0--1\n", fault(api.ErrText, 5)},

		// Bytes that may not stand there.
		{" 2:\n", fault(api.ErrText, 0)},
		{"2 :\n", fault(api.ErrText, 1)},
		{"2\n", fault(api.ErrText, 1)},
		{"2;\n", fault(api.ErrText, 1)},
		{"2:x", fault(api.ErrText, 2)},
		{"2:0-1\n", fault(api.ErrText, 2)},
		{"2: \n", fault(api.ErrText, 3)},
		{"2:  0-1\n", fault(api.ErrText, 3)},
		{"2:\t0-1\n", fault(api.ErrText, 2)},
		{"2:\r\n", fault(api.ErrText, 2)},
		{"2: 0-1\r\n", fault(api.ErrText, 6)},
		{"2: 0-1 \n", fault(api.ErrText, 7)},
		{"2: 0 -1\n", fault(api.ErrText, 4)},
		{"2: 0- 1\n", fault(api.ErrText, 5)},
		{"2: 0\u20131\n", fault(api.ErrText, 4)},
		{"2: 0-\n", fault(api.ErrText, 5)},
		{"2: 0-1-2\n", fault(api.ErrText, 6)},
		{"2: 0-1,1-0\n", fault(api.ErrText, 6)},
		{"2:\xff\n", fault(api.ErrText, 2)},
		{"2:\x00\n", fault(api.ErrText, 2)},
		{"\x00", fault(api.ErrText, 0)},

		// What is wrong with the text, ahead of what is wrong with the graph.
		{"999: 0-0 0-0", fault(api.ErrText, 12)},
		{"2: 0-5 1-1 0-1x", fault(api.ErrText, 14)},
		{"2: 0-0 0-01\n", fault(api.ErrText, 9)},
		{"10:" + edges(1001) + "\n\n", fault(api.ErrText, 3+4*1001+1)},
	} {
		g, f := codec.Read(x.s)
		wantFault(t, "Read "+short(x.s), g, f, x.want)
	}
}

func TestReadFaultsOfTheGraph(t *testing.T) {
	for _, x := range []struct {
		s    string
		want api.Fault
	}{
		{"101:\n", fault(api.ErrMany, 0)},
		{"999:\n", fault(api.ErrMany, 0)},
		{"101: 0-0\n", fault(api.ErrMany, 0)},
		{wantPrinted(some(100, api.MaxEdges+1)), fault(api.ErrMany, 0)},
		{"10:" + edges(4999) + "\n", fault(api.ErrMany, 0)},
		{"2:" + strings.Repeat(" 1-1", api.MaxEdges+1) + "\n", fault(api.ErrMany, 0)},
		{"0: 0-1\n", fault(api.ErrRange, 0)},
		{"2: 0-1 0-2\n", fault(api.ErrRange, 1)},
		{"2: 0-1 2-0\n", fault(api.ErrRange, 1)},
		{"100: 0-100\n", fault(api.ErrRange, 0)},
		{"100: 999-999\n", fault(api.ErrRange, 0)},
		{"2: 0-1 1-1\n", fault(api.ErrLoop, 1)},
		{"1: 0-0\n", fault(api.ErrLoop, 0)},
		{"2: 0-1 1-0\n", fault(api.ErrTwice, 1)},
		{"3: 2-1 0-1 2-1 0-0\n", fault(api.ErrTwice, 2)},
		{"3: 2-1 0-0 2-1\n", fault(api.ErrLoop, 1)},
		{"2:" + strings.Repeat(" 1-0", api.MaxEdges) + "\n", fault(api.ErrTwice, 1)},
	} {
		g, f := codec.Read(x.s)
		wantFault(t, "Read "+short(x.s), g, f, x.want)
	}
}

// goesOn holds of the beginnings of texts, with § for a whole number, since texts of ASCII have none.
var goesOn = regexp.MustCompile(`^(§(:( §-§)*( (§-?)?)?)?)?$`)

// whole holds of whole texts.
var whole = regexp.MustCompile(`^§:( §-§)*` + "\n" + `$`)

// pieces are numbers as long as they can be, and single bytes between them.
var pieces = regexp.MustCompile(`(?s)[0-9]+|[^0-9]`)

var rightNumber = regexp.MustCompile(`^(0|[1-9][0-9]?[0-9]?)$`)

// read tells what Read is to answer to a text of ASCII.
func read(s string) (api.Graph, api.Fault) {
	if len(s) > api.MaxText {
		return api.Graph{}, fault(api.ErrMany, 0)
	}
	told := ""
	var numbers []int
	for _, at := range pieces.FindAllStringIndex(s, -1) {
		piece := s[at[0]:at[1]]
		if '0' <= piece[0] && piece[0] <= '9' {
			if !goesOn.MatchString(told+"§") || !rightNumber.MatchString(piece) {
				return api.Graph{}, fault(api.ErrText, at[0])
			}
			n, _ := strconv.Atoi(piece)
			numbers = append(numbers, n)
			piece = "§"
		}
		told += piece
		if !goesOn.MatchString(told) && !whole.MatchString(told) {
			return api.Graph{}, fault(api.ErrText, at[0])
		}
	}
	if !whole.MatchString(told) {
		return api.Graph{}, fault(api.ErrText, len(s))
	}
	return graph.Form(of(numbers[0], numbers[1:]...))
}

func wantRead(t *testing.T, s string) {
	t.Helper()
	want, wantF := read(s)
	g, f := codec.Read(s)
	if f != wantF || !equal(g, want) {
		t.Fatalf("Read %s: %v %v, want %v %v", short(s), g, f, want, wantF)
	}
}

func TestReadAllShortTexts(t *testing.T) {
	letters := "012:- \n"
	var all func(s string, more int)
	all = func(s string, more int) {
		wantRead(t, s)
		for i := range len(letters) {
			if more > 0 {
				all(s+letters[i:i+1], more-1)
			}
		}
	}
	all("", 5)
	all("3: ", 4)
	all("2: 0-1", 4)
	all("3: 0-1 1-", 3)
	all("9", 4)
}

// TestReadWithAByteChanged: texts that are nearly right.
func TestReadWithAByteChanged(t *testing.T) {
	for _, s := range []string{"0:\n", "100: 99-98 0-99\n", "3: 0-1 1-2\n", "12: 2-9 10-2 10-11\n", "5: 0-1 1-2 2-0 3-4\n"} {
		for at := range s {
			for b := range 128 {
				c := string(rune(b))
				wantRead(t, s[:at]+c+s[at+1:])
				wantRead(t, s[:at]+c+s[at:])
			}
			wantRead(t, s[:at]+s[at+1:])
			wantRead(t, s[:at])
			wantRead(t, s[at:])
			wantRead(t, s+s[at:])
		}
	}
}
