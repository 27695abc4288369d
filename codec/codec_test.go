package codec_test

import (
	"math"
	"slices"
	"strings"
	"sync"
	"testing"

	"arbor/api"
	"arbor/codec"
	"arbor/graph"
)

// writers are the calls that make a text of a graph, readers those that make a graph of a text.
func writers() map[string]func(api.Graph) (string, api.Fault) {
	return map[string]func(api.Graph) (string, api.Fault){"Pack": codec.Pack, "Print": codec.Print}
}

func readers() map[string]func(string) (api.Graph, api.Fault) {
	return map[string]func(string) (api.Graph, api.Fault){"Unpack": codec.Unpack, "Read": codec.Read}
}

// faultyGraphs has each fault of a graph, and where there are several, the one to be told is not the last.
func faultyGraphs() map[api.Fault][]api.Graph {
	loops := api.Graph{N: 2, Edges: make([][2]int, api.MaxEdges+1)}
	return map[api.Fault][]api.Graph{
		fault(api.ErrMany, 0): {
			of(-1), of(math.MinInt), of(api.MaxNodes + 1), of(math.MaxInt), of(-1, 0, 0), of(api.MaxNodes+1, 0, 0),
			some(api.MaxNodes, api.MaxEdges+1), loops,
		},
		fault(api.ErrRange, 0): {of(0, 0, 1), of(2, 2, 2), of(2, -1, 0), of(2, math.MinInt, math.MaxInt), of(63, 0, 63)},
		fault(api.ErrRange, 1): {of(2, 0, 1, 0, 2), of(2, 0, 1, 2, 0), of(3, 0, 1, 3, 0, 1, 0, 2, 2)},
		fault(api.ErrLoop, 1):  {of(2, 0, 1, 1, 1), of(3, 0, 1, 1, 1, 0, 9)},
		fault(api.ErrTwice, 1): {of(2, 0, 1, 0, 1), of(2, 0, 1, 1, 0), of(3, 0, 1, 1, 0, 9, 0, 2, 2)},
	}
}

func TestWritersTellWhatCheckSays(t *testing.T) {
	for want, graphs := range faultyGraphs() {
		for _, g := range graphs {
			if f := graph.Check(g); f != want {
				t.Errorf("Check of N %d with %d edges: %v, want %v", g.N, len(g.Edges), f, want)
			}
			for name, write := range writers() {
				if s, f := write(g); s != "" || f != want {
					t.Errorf("%s of N %d with %d edges: %q %v, want %v", name, g.N, len(g.Edges), s, f, want)
				}
			}
		}
	}
}

func TestWritersOnlyRead(t *testing.T) {
	for name, write := range writers() {
		for _, was := range append(small(3), scrambled(full(6)), scrambled(sparse(63, 9))) {
			room := append(slices.Clone(was.Edges), [2]int{-7, -7}, [2]int{-7, -7})
			keep := slices.Clone(room)
			g := api.Graph{N: was.N, Edges: room[:len(was.Edges)]}
			_, f := write(g)
			if f != (api.Fault{}) || !slices.Equal(room, keep) {
				t.Errorf("%s: %v, edges %v, were %v", name, f, room, keep)
			}
		}
	}
}

func TestReadersAnswerNewMemory(t *testing.T) {
	texts := map[string]string{"Unpack": "D~{", "Read": wantPrinted(full(5))}
	for name, read := range readers() {
		first, _ := read(texts[name])
		second, f := read(texts[name])
		all := first.Edges[:cap(first.Edges)]
		for i := range all {
			all[i] = [2]int{-9, -9}
		}
		wantGraph(t, name+", asked twice", second, f, full(5))
		third, f := read(texts[name])
		wantGraph(t, name+", asked three times", third, f, full(5))
	}
}

// TestNilAndEmptyAreTheSame: a list without elements is the same either way.
func TestNilAndEmptyAreTheSame(t *testing.T) {
	for name, write := range writers() {
		s, _ := write(api.Graph{N: 2})
		e, _ := write(api.Graph{N: 2, Edges: [][2]int{}})
		if s != e || s == "" {
			t.Errorf("%s: %q of nil, %q of an empty list", name, s, e)
		}
	}
}

// TestReadersSideBySide: a fault of one text is told of no other.
func TestReadersSideBySide(t *testing.T) {
	var wait sync.WaitGroup
	for k := range 8 {
		wait.Go(func() {
			for range 200 {
				_, f := codec.Read("2:" + edges(k) + "x")
				if f != fault(api.ErrText, 2+4*k) {
					t.Errorf("Read: %v", f)
				}
				_, f = codec.Unpack("D" + strings.Repeat("?", k%2))
				if f != fault(api.ErrText, 1+k%2) {
					t.Errorf("Unpack: %v", f)
				}
			}
		})
	}
	wait.Wait()
}
