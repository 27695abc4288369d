package parts_test

import (
	"fmt"
	"math"
	"slices"
	"testing"

	"arbor/api"
	"arbor/parts"
)

func TestStrongByHand(t *testing.T) {
	for _, x := range []struct {
		name string
		n    int
		arcs [][2]int
		want string
	}{
		{"nothing", 0, nil, "[]"},
		{"nothing, an empty list", 0, [][2]int{}, "[]"},
		{"a node", 1, nil, "[[0]]"},
		{"a node with an arc to itself", 1, pairs(0, 0), "[[0]]"},
		{"the same one more than once", 1, pairs(0, 0, 0, 0, 0, 0), "[[0]]"},
		{"nodes alone", 3, nil, "[[0] [1] [2]]"},
		{"an arc", 2, pairs(0, 1), "[[0] [1]]"},
		{"an arc back", 2, pairs(1, 0), "[[1] [0]]"},
		{"an arc twice is no way back", 2, pairs(1, 0, 1, 0), "[[1] [0]]"},
		{"there and back", 2, pairs(1, 0, 0, 1), "[[0 1]]"},
		{"a ring", 4, pairs(2, 0, 0, 3, 3, 1, 1, 2), "[[0 1 2 3]]"},
		{"the least of those that are left, not the last one's next", 5, pairs(4, 0, 3, 1), "[[2] [3] [1] [4] [0]]"},
		{"through one that is left", 4, pairs(3, 2, 2, 0), "[[1] [3] [2] [0]]"},
		{"first nodes, not any nodes", 6, pairs(5, 0, 0, 5, 1, 4, 4, 1, 4, 5), "[[1 4] [0 5] [2] [3]]"},
		{"what the chapter's tests ask", 5, pairs(4, 3, 3, 4, 3, 0, 2, 2, 1, 0), "[[1] [2] [3 4] [0]]"},
	} {
		got, f := parts.Strong(x.n, x.arcs)
		same(t, "Strong, "+x.name, got, x.want, f)
	}
}

// arcSets has all sets of arcs of n nodes, of those that keep holds of.
func arcSets(n int, keep func(u, v int) bool) [][][2]int {
	var all [][2]int
	for u := range n {
		for v := range n {
			if keep(u, v) {
				all = append(all, [2]int{u, v})
			}
		}
	}
	var out [][][2]int
	for set := range 1 << len(all) {
		var arcs [][2]int
		for i, arc := range all {
			if set>>i&1 == 1 {
				arcs = append(arcs, arc)
			}
		}
		out = append(out, arcs)
	}
	return out
}

func TestStrongOfAllSmallOnes(t *testing.T) {
	for n := range 4 {
		for _, arcs := range arcSets(n, func(u, v int) bool { return true }) {
			wantStrong(t, n, arcs)
			wantStrong(t, n, append(arcs, arcs...))
		}
	}
	for _, arcs := range arcSets(4, func(u, v int) bool { return u != v }) {
		wantStrong(t, 4, arcs)
	}
	// without rings, rising and falling: the order alone
	for _, arcs := range arcSets(5, func(u, v int) bool { return (u+2)%5 < (v+2)%5 }) {
		wantStrong(t, 5, arcs)
	}
}

func wantStrong(t *testing.T, n int, arcs [][2]int) {
	t.Helper()
	got, f := parts.Strong(n, arcs)
	same(t, fmt.Sprint("Strong of ", n, arcs), got, strong(n, arcs), f)
}

func TestStrongOfMixedOnes(t *testing.T) {
	for seed := range 400 {
		n := 5 + seed%12
		wantStrong(t, n, mixed(n, seed%29, seed))
	}
	for seed := range 20 {
		wantStrong(t, api.MaxNodes, mixed(api.MaxNodes, seed*13, seed))
	}
}

func TestStrongLimits(t *testing.T) {
	wantStrong(t, api.MaxNodes, mixed(api.MaxNodes, api.MaxEdges, 1))
	wantStrong(t, api.MaxNodes, nil)
	wantStrong(t, 1, make([][2]int, api.MaxEdges))
	down := path(api.MaxNodes).Edges
	for i := range down {
		down[i][0], down[i][1] = down[i][1], down[i][0]
	}
	wantStrong(t, api.MaxNodes, down)
	wantStrong(t, api.MaxNodes, append(down, [2]int{0, api.MaxNodes - 1}))
	wantStrong(t, api.MaxNodes, append(path(api.MaxNodes).Edges, [2]int{98, 50}, [2]int{30, 3}))
}

func TestStrongFaults(t *testing.T) {
	last := make([][2]int, api.MaxEdges)
	last[api.MaxEdges-1] = [2]int{0, 2}
	for _, x := range []struct {
		name string
		n    int
		arcs [][2]int
		f    api.Fault
	}{
		{"n below 0", -1, nil, fault(api.ErrMany, 0)},
		{"n the least", math.MinInt, nil, fault(api.ErrMany, 0)},
		{"a node too many", api.MaxNodes + 1, nil, fault(api.ErrMany, 0)},
		{"n the greatest", math.MaxInt, nil, fault(api.ErrMany, 0)},
		{"an arc too many", 2, make([][2]int, api.MaxEdges+1), fault(api.ErrMany, 0)},
		{"an arc too many, no nodes", 0, make([][2]int, api.MaxEdges+1), fault(api.ErrMany, 0)},
		{"n ahead of an arc", -1, pairs(0, 0), fault(api.ErrMany, 0)},
		{"n too great ahead of an arc", api.MaxNodes + 1, pairs(0, 1, -1, 0), fault(api.ErrMany, 0)},
		{"no nodes", 0, pairs(0, 0), fault(api.ErrRange, 0)},
		{"first node n", 2, pairs(0, 1, 2, 0), fault(api.ErrRange, 1)},
		{"second node n", 2, pairs(0, 1, 0, 2), fault(api.ErrRange, 1)},
		{"first node below 0", 2, pairs(-1, 0), fault(api.ErrRange, 0)},
		{"second node below 0", 2, pairs(1, 1, 1, 1, 0, -1), fault(api.ErrRange, 2)},
		{"the least and the greatest", 2, pairs(math.MinInt, math.MaxInt), fault(api.ErrRange, 0)},
		{"the first of two", 3, pairs(0, 1, 1, 3, -1, 0), fault(api.ErrRange, 1)},
		{"node MaxNodes", api.MaxNodes, pairs(99, 0, 0, 100), fault(api.ErrRange, 1)},
		{"the last arc of MaxEdges", 2, last, fault(api.ErrRange, api.MaxEdges-1)},
	} {
		got, f := parts.Strong(x.n, x.arcs)
		if f != x.f || len(got) != 0 {
			t.Errorf("Strong, %s: %v %v, want %v", x.name, got, f, x.f)
		}
	}
}

func TestArcsAreOnlyReadAndStrongPartsAreNew(t *testing.T) {
	room := pairs(4, 3, 3, 4, 3, 0, 2, 2, 1, 0, -7, -7)
	was := slices.Clone(room)
	got, f := parts.Strong(5, room[:5])
	wantApart(t, "Strong", -9, got...)
	again, _ := parts.Strong(5, room[:5])
	same(t, "Strong asked twice", again, "[[1] [2] [3 4] [0]]", f)
	if !slices.Equal(room, was) {
		t.Errorf("Strong: arcs %v, were %v", room, was)
	}
}
