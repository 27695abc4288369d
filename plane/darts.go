package plane

// turns has of each dart the other way round, from b back to a, the node that stands round b behind a.
type turns map[[2]int]int

// roundBy answers the order round the nodes that has these faces. Each block of the graph was laid on its own, and has its own turn round a node; these stand one behind the other, and so a face of the one and a face of the other become one.
func roundBy(near []set, faces []face) [][]int {
	behind := turns{}
	for _, f := range faces {
		for i, b := range f.walk {
			a, c := f.walk[(i+len(f.walk)-1)%len(f.walk)], f.walk[(i+1)%len(f.walk)]
			behind[[2]int{b, a}] = c
		}
	}
	round := make([][]int, len(near))
	for v := range near {
		var told set
		for first := range near[v].rising {
			for u := first; !told.has(u); u = behind[[2]int{v, u}] {
				told.add(u)
				round[v] = append(round[v], u)
			}
		}
	}
	return round
}

// trace answers the faces of an order round the nodes. Darts are begun with as they rise, so that each face begins with its least one, and faces stand in the order of these.
func trace(near []set, round [][]int) [][]int {
	behind := turns{}
	for v, list := range round {
		for i, u := range list {
			behind[[2]int{v, u}] = list[(i+1)%len(list)]
		}
	}
	var faces [][]int
	seen := make([]set, len(near)) // of each node those to which a dart went already
	for v := range near {
		for u := range near[v].rising {
			var walk []int
			for dart := [2]int{v, u}; !seen[dart[0]].has(dart[1]); {
				a, b := dart[0], dart[1]
				seen[a].add(b)
				walk = append(walk, a)
				dart = [2]int{b, behind[[2]int{b, a}]}
			}
			if len(walk) > 0 {
				faces = append(faces, walk)
			}
		}
	}
	return faces
}
