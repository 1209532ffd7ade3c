package bags

import (
	"iter"
	"math/bits"

	"lampbox/api"
)

// vertices is a set of vertices: its bit v tells whether v is in it.
type vertices uint32

// firstVertices is the set of the vertices from 0 to n - 1.
func firstVertices(n int) vertices {
	return 1<<n - 1
}

// readSet reads a non-empty list of different vertices in ascending order, and reports whether it is one.
func readSet(n int, list []int) (vertices, bool) {
	var s vertices
	last := -1
	for _, v := range list {
		if v <= last || v >= n {
			return 0, false
		}
		s = s.with(v)
		last = v
	}
	return s, s != 0
}

func (s vertices) has(v int) bool {
	return s>>v&1 == 1
}

func (s vertices) with(v int) vertices {
	return s | 1<<v
}

func (s vertices) without(v int) vertices {
	return s &^ (1 << v)
}

func (s vertices) size() int {
	return bits.OnesCount32(uint32(s))
}

// members visits the vertices of the set in ascending order.
func (s vertices) members() iter.Seq[int] {
	return func(yield func(int) bool) {
		for v := range api.MaxCorners {
			if s.has(v) && !yield(v) {
				return
			}
		}
	}
}

func (s vertices) list() []int {
	list := make([]int, 0, s.size())
	for v := range s.members() {
		list = append(list, v)
	}
	return list
}
