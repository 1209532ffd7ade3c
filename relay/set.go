package relay

import "math/bits"

// set is a set of houses or of people: its bit i tells whether i is in it.
type set uint32

// first is the set of the numbers from 0 to n - 1.
func first(n int) set {
	return 1<<n - 1
}

func (s set) has(i int) bool {
	return s>>i&1 == 1
}

func (s set) with(i int) set {
	return s | 1<<i
}

func (s set) without(i int) set {
	return s &^ (1 << i)
}

// list returns the members in ascending order.
func (s set) list() []int {
	var list []int
	for rest := s; rest != 0; rest &= rest - 1 {
		list = append(list, bits.TrailingZeros32(uint32(rest)))
	}
	return list
}
