package codec_test

import (
	"strings"
	"testing"

	"arbor/api"
	"arbor/codec"
)

func TestPackKnownGraphs(t *testing.T) {
	for _, x := range []struct {
		g    api.Graph
		want string
	}{
		{of(0), "?"},
		{of(1), "@"},
		{of(2), "A?"},
		{of(2, 1, 0), "A_"},
		{of(3, 0, 1, 1, 2), "Bg"},
		{full(3), "Bw"},
		{of(3, 0, 2), "BO"},
		{of(4, 0, 3), "CC"},
		{full(4), "C~"},
		{of(5, 0, 2, 0, 4, 1, 3, 3, 4), "DQc"},
		{full(5), "D~{"},
		{of(62), "}" + strings.Repeat("?", 316)},
		{of(63), "~??~" + strings.Repeat("?", 326)},
		{of(64), "~?@?" + strings.Repeat("?", 336)},
		{of(100), "~?@c" + strings.Repeat("?", 825)},
		{of(100, 99, 98), "~?@c" + strings.Repeat("?", 824) + "@"},
		{of(100, 0, 1), "~?@c_" + strings.Repeat("?", 824)},
		{of(63, 61, 62), "~??~" + strings.Repeat("?", 325) + "G"},
	} {
		s, f := codec.Pack(x.g)
		wantText(t, "Pack", s, f, x.want)
		g, f := codec.Unpack(x.want)
		if len(x.g.Edges) > 0 && x.g.Edges[0][0] > x.g.Edges[0][1] {
			x.g = scrambled(x.g)
		}
		wantGraph(t, "Unpack "+short(x.want), g, f, x.g)
	}
}

func TestPackAndUnpackGoThereAndBack(t *testing.T) {
	for _, g := range many() {
		want := wantPacked(g)
		s, f := codec.Pack(g)
		wantText(t, "Pack", s, f, want)
		s, f = codec.Pack(scrambled(g))
		wantText(t, "Pack scrambled", s, f, want)
		back, f := codec.Unpack(want)
		wantGraph(t, "Unpack "+short(want), back, f, g)
	}
}

func TestUnpackFaults(t *testing.T) {
	nought := strings.Repeat
	for _, x := range []struct {
		s    string
		want api.Fault
	}{
		// More than MaxText bytes, ahead of all else.
		{nought("?", api.MaxText+1), fault(api.ErrMany, 0)},
		{" " + nought("?", api.MaxText), fault(api.ErrMany, 0)},
		{nought("?", api.MaxText), fault(api.ErrText, 1)},
		{nought("?", api.MaxText-1) + " ", fault(api.ErrText, api.MaxText-1)},

		// A byte that may not stand there, ahead of all that the others tell.
		{">", fault(api.ErrText, 0)},
		{"\x7f", fault(api.ErrText, 0)},
		{"B>", fault(api.ErrText, 1)},
		{"B\x7f", fault(api.ErrText, 1)},
		{"B\x00", fault(api.ErrText, 1)},
		{"B\xff", fault(api.ErrText, 1)},
		{"Bg\n", fault(api.ErrText, 2)},
		{"Bgg\n", fault(api.ErrText, 3)},
		{"Bh ", fault(api.ErrText, 2)},
		{"D? ", fault(api.ErrText, 2)},
		{"~? ", fault(api.ErrText, 2)},
		{"~??A ", fault(api.ErrText, 4)},
		{"~~~~ ", fault(api.ErrText, 4)},
		{">>graph6<<Bg", fault(api.ErrText, 0)},
		{"ä", fault(api.ErrText, 0)},
		{"B\x80B ", fault(api.ErrText, 1)},

		// It ends within N.
		{"", fault(api.ErrText, 0)},
		{"~", fault(api.ErrText, 1)},
		{"~?", fault(api.ErrText, 2)},
		{"~~", fault(api.ErrText, 2)},
		{"~??", fault(api.ErrText, 3)},
		{"~~~", fault(api.ErrText, 3)},

		// N in three bytes though it is below 63, ahead of what stands behind.
		{"~???", fault(api.ErrForm, 0)},
		{"~??A", fault(api.ErrForm, 0)},
		{"~??B" + "g", fault(api.ErrForm, 0)},
		{"~??}", fault(api.ErrForm, 0)},
		{"~??}" + nought("?", 316), fault(api.ErrForm, 0)},
		{"~??}" + nought("~", 400), fault(api.ErrForm, 0)},

		// N above MaxNodes, ahead of what stands behind.
		{"~?@d", fault(api.ErrMany, 0)},
		{"~?@d" + nought("?", 842), fault(api.ErrMany, 0)},
		{"~?A?", fault(api.ErrMany, 0)},
		{"~@??", fault(api.ErrMany, 0)},
		{"~~~~", fault(api.ErrMany, 0)},
		{"~~??????", fault(api.ErrMany, 0)},

		// Fewer bytes, or more.
		{"A", fault(api.ErrText, 1)},
		{"B", fault(api.ErrText, 1)},
		{"D", fault(api.ErrText, 1)},
		{"D?", fault(api.ErrText, 2)},
		{"D~", fault(api.ErrText, 2)},
		{"}" + nought("~", 315), fault(api.ErrText, 316)},
		{"~??~", fault(api.ErrText, 4)},
		{"~??~" + nought("~", 325), fault(api.ErrText, 329)},
		{"~?@c" + nought("~", 824), fault(api.ErrText, 828)},
		{"??", fault(api.ErrText, 1)},
		{"@?", fault(api.ErrText, 1)},
		{"@~~~", fault(api.ErrText, 1)},
		{"Bgg", fault(api.ErrText, 2)},
		{"Bhh", fault(api.ErrText, 2)},
		{"Bg???", fault(api.ErrText, 2)},
		{"D~{?", fault(api.ErrText, 3)},
		{"}" + nought("?", 317), fault(api.ErrText, 317)},
		{"~??~" + nought("~", 327), fault(api.ErrText, 330)},
		{"~?@c" + nought("~", 826), fault(api.ErrText, 829)},

		// A bit behind the last pair's, each of them.
		{"Bh", fault(api.ErrForm, 1)},
		{"B@", fault(api.ErrForm, 1)},
		{"BA", fault(api.ErrForm, 1)},
		{"BC", fault(api.ErrForm, 1)},
		{"B~", fault(api.ErrForm, 1)},
		{"AO", fault(api.ErrForm, 1)},
		{"A@", fault(api.ErrForm, 1)},
		{"D?@", fault(api.ErrForm, 2)},
		{"D?A", fault(api.ErrForm, 2)},
		{"D~~", fault(api.ErrForm, 2)},
		{"}" + nought("?", 315) + "@", fault(api.ErrForm, 316)},
		{"~??~" + nought("?", 325) + "C", fault(api.ErrForm, 329)},
		{"~??~" + nought("~", 326), fault(api.ErrForm, 329)},

		// Too many edges.
		{wantPacked(some(63, api.MaxEdges+1)), fault(api.ErrMany, 0)},
		{wantPacked(some(100, api.MaxEdges+1)), fault(api.ErrMany, 0)},
		{wantPacked(full(46)), fault(api.ErrMany, 0)},
		{wantPacked(full(62)), fault(api.ErrMany, 0)},
		{wantPacked(full(100)), fault(api.ErrMany, 0)},
	} {
		g, f := codec.Unpack(x.s)
		wantFault(t, "Unpack "+short(x.s), g, f, x.want)
	}
}

func TestUnpackAtMostEdges(t *testing.T) {
	for _, n := range []int{46, 62, 63, 100} {
		g := some(n, api.MaxEdges)
		got, f := codec.Unpack(wantPacked(g))
		wantGraph(t, "MaxEdges", got, f, g)
	}
	g, f := codec.Unpack(wantPacked(full(45)))
	wantGraph(t, "990 edges", g, f, full(45))
}

// unpacked tells, point by point of the document, what Unpack is to answer.
func unpacked(s string) (n int, bits string, f api.Fault) {
	if len(s) > api.MaxText {
		return 0, "", fault(api.ErrMany, 0)
	}
	all := ""
	for i := range len(s) {
		if s[i] < 63 || s[i] > 126 {
			return 0, "", fault(api.ErrText, i)
		}
		for k := 5; k >= 0; k-- {
			all += string(rune('0' + (s[i]-63)>>k&1))
		}
	}
	head := 1
	if strings.HasPrefix(s, "~") {
		head = 4
	}
	if len(s) < head {
		return 0, "", fault(api.ErrText, len(s))
	}
	for _, b := range all[6*(head/4) : 6*head] {
		n = 2*n + int(b-'0')
	}
	ask := head
	for 6*(ask-head) < n*(n-1)/2 && n <= api.MaxNodes {
		ask++
	}
	all = all[6*head:]
	switch {
	case head == 4 && n < 63:
		return 0, "", fault(api.ErrForm, 0)
	case n > api.MaxNodes:
		return 0, "", fault(api.ErrMany, 0)
	case len(s) != ask:
		return 0, "", fault(api.ErrText, min(len(s), ask))
	case strings.Contains(all[n*(n-1)/2:], "1"):
		return 0, "", fault(api.ErrForm, len(s)-1)
	case strings.Count(all, "1") > api.MaxEdges:
		return 0, "", fault(api.ErrMany, 0)
	}
	return n, all[:n*(n-1)/2], api.Fault{}
}

func wantUnpacked(t *testing.T, s string) {
	t.Helper()
	n, pairs, want := unpacked(s)
	g, f := codec.Unpack(s)
	if f != want || g.N != n || bits(g) != pairs {
		t.Fatalf("Unpack %s: %v %v, want N %d, %q, %v", short(s), g, f, n, pairs, want)
	}
	if again, f := codec.Pack(g); want.Code == api.OK && (f.Code != api.OK || again != s) {
		t.Fatalf("Unpack %s, then Pack: %q %v", short(s), again, f)
	}
}

func TestUnpackAllShortTexts(t *testing.T) {
	wantUnpacked(t, "")
	for a := range 256 {
		wantUnpacked(t, string([]byte{byte(a)}))
		for b := range 256 {
			wantUnpacked(t, string([]byte{byte(a), byte(b)}))
		}
	}
	for b := range 64 {
		for c := range 64 {
			wantUnpacked(t, string([]byte{'D', byte(b + 63), byte(c + 63)}))
			wantUnpacked(t, string([]byte{'~', '?', byte(b + 63), byte(c + 63)}))
			wantUnpacked(t, string([]byte{'~', byte(b + 63), byte(c + 63), '~', '?'}))
		}
	}
}

// TestUnpackWithAByteChanged: texts that are nearly right.
func TestUnpackWithAByteChanged(t *testing.T) {
	for _, g := range []api.Graph{full(5), sparse(9, 3), of(13), sparse(62, 5), sparse(63, 5), some(63, api.MaxEdges), some(100, api.MaxEdges)} {
		s := wantPacked(g)
		for at := range min(len(s), 6) {
			for _, b := range []byte{0, 62, 63, 64, 95, 125, 126, 127, 255} {
				wantUnpacked(t, s[:at]+string([]byte{b})+s[at+1:])
				last := len(s) - 1 - at
				wantUnpacked(t, s[:last]+string([]byte{b})+s[last+1:])
			}
			wantUnpacked(t, s[:at])
			wantUnpacked(t, s[:len(s)-at])
			wantUnpacked(t, s[at:])
			wantUnpacked(t, s+s[:at])
		}
	}
}
