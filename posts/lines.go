package posts

import (
	"math/bits"

	"lampbox/api"
)

// lines is a set of rows, or a set of columns: its bit i tells whether the row or column i is in it.
type lines uint16

// firstLines is the set of the rows, or columns, from 0 to n - 1.
func firstLines(n int) lines {
	return 1<<n - 1
}

func (l lines) has(i int) bool {
	return l>>i&1 == 1
}

func (l lines) with(i int) lines {
	return l | 1<<i
}

func (l lines) without(i int) lines {
	return l &^ (1 << i)
}

func (l lines) size() int {
	return bits.OnesCount16(uint16(l))
}

// list returns the members in ascending order.
func (l lines) list() []int {
	var list []int
	for i := range api.MaxPosts {
		if l.has(i) {
			list = append(list, i)
		}
	}
	return list
}
