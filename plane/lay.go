package plane

import (
	"slices"
	"sort"
)

// none stands where there is no face.
const none = -1

// face has the nodes from which its darts go, in their order, and as a set. While a block is laid, no node is in a face twice.
type face struct {
	walk  []int
	nodes set
}

func faceOf(walk []int) face { return face{walk, setOf(walk)} }

// lay lays the edges of n nodes in the plane, block by block, and answers the faces of each block; or tells that they have no plane order.
func lay(n int, edges [][2]int) ([]face, bool) {
	near := nearBy(n, edges)
	var faces []face
	for _, e := range edges {
		if !near[e[0]].has(e[1]) {
			continue
		}
		block, ok := layBlock(near, e)
		if !ok {
			return nil, false
		}
		faces = append(faces, block...)
	}
	return faces, true
}

// layBlock lays the block of an edge, and takes its edges out of near. It begins with the edge alone, which has one face, and lays way by way through a face, from which become two. If no face has room for a piece, there is no plane order; if one alone has, there is no choice; and if each piece has two faces or more, any of them does (Demoucron, Malgrange and Pertuiset have shown it).
func layBlock(near []set, first [2]int) ([]face, bool) {
	var laid, rest set
	for v := range near {
		if v != first[0] && v != first[1] {
			rest.add(v)
		}
	}
	part(near, first[0], first[1])
	pieces := piecesOf(near, laid, first[:], rest)
	laid = setOf(first[:])
	faces := []face{faceOf(first[:])}
	for len(pieces) > 0 {
		at, room := choose(pieces, faces)
		if room == none {
			return nil, false
		}
		p := pieces[at]
		way := p.wayThrough(near)
		for i := range way[1:] {
			part(near, way[i], way[i+1])
		}
		faces = cross(faces, room, way)
		fresh := way[1 : len(way)-1]
		pieces = slices.Delete(pieces, at, at+1)
		pieces = append(pieces, piecesOf(near, laid, fresh, p.inner.less(setOf(fresh)))...)
		laid = laid.either(setOf(fresh))
	}
	return faces, true
}

// choose answers the number of a piece that is to be laid next, and that of a face that has room for it: one without a choice, if there is such a piece.
func choose(pieces []piece, faces []face) (at, room int) {
	for i, p := range pieces {
		room := roomFor(p, faces, 0)
		if room == none || roomFor(p, faces, room+1) == none {
			return i, room
		}
	}
	return 0, roomFor(pieces[0], faces, 0)
}

// roomFor answers the number of the first face, from one on, that has all feet of the piece.
func roomFor(p piece, faces []face, from int) int {
	at := slices.IndexFunc(faces[from:], func(f face) bool { return p.feet.less(f.nodes).isEmpty() })
	if at < 0 {
		return none
	}
	return from + at
}

// cross lays a way through a face, between two of its nodes, and answers all faces.
func cross(faces []face, room int, way []int) []face {
	walk := faces[room].walk
	a, b := slices.Index(walk, way[0]), slices.Index(walk, way[len(way)-1])
	inner := slices.Clone(way[1 : len(way)-1])
	one := append(along(walk, b, a), inner...)
	slices.Reverse(inner)
	other := append(along(walk, a, b), inner...)
	faces[room] = faceOf(one)
	return append(faces, faceOf(other))
}

// along answers the nodes of a walk that comes back to where it began, from the one place to the other, both with them.
func along(walk []int, from, to int) []int {
	if from <= to {
		return slices.Clone(walk[from : to+1])
	}
	return slices.Concat(walk[from:], walk[:to+1])
}

// needed answers edges without a plane order, of which none may be left out, or else there were one: by Kuratowski's theorem such edges are all those between five nodes, or between three and three, with further nodes on them. It begins with the first edges up to the one that was too much: they are few, since not many are in the plane, and the fewer there are, the sooner it is told whether one may go.
func needed(n int, edges [][2]int) [][2]int {
	isBad := func(l [][2]int) bool {
		_, ok := lay(n, l)
		return !ok
	}
	many := sort.Search(len(edges), func(k int) bool { return isBad(edges[:k]) })
	bad := slices.Clone(edges[:many])
	for at := 0; at < len(bad); {
		without := slices.Delete(slices.Clone(bad), at, at+1)
		if isBad(without) {
			bad = without
		} else {
			at++
		}
	}
	return bad
}
