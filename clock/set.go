package clock

import "math/bits"

// set is a set of states: its bit q tells whether the state q is in it.
type set uint16

// first is the set of the states from 0 to n - 1.
func first(n int) set {
	return 1<<n - 1
}

func (s set) has(state int) bool {
	return s>>state&1 == 1
}

func (s set) with(state int) set {
	return s | 1<<state
}

func (s set) size() int {
	return bits.OnesCount16(uint16(s))
}

// smallest returns the smallest state of a set that is not empty.
func (s set) smallest() int {
	return bits.TrailingZeros16(uint16(s))
}

// list returns the states in ascending order.
func (s set) list() []int {
	var list []int
	for rest := s; rest != 0; rest &= rest - 1 {
		list = append(list, rest.smallest())
	}
	return list
}
