package round

import "lampbox/api"

// stops is a set of stops: its bit i tells whether the stop i is in it.
type stops uint16

// firstStops is the set of the stops from 0 to n - 1.
func firstStops(n int) stops {
	return 1<<n - 1
}

func (s stops) has(stop int) bool {
	return s>>stop&1 == 1
}

func (s stops) with(stop int) stops {
	return s | 1<<stop
}

func (s stops) without(stop int) stops {
	return s &^ (1 << stop)
}

// list returns the members in ascending order.
func (s stops) list() []int {
	var list []int
	for stop := range api.MaxStops {
		if s.has(stop) {
			list = append(list, stop)
		}
	}
	return list
}

// least returns the first member with the smallest number, and this number. The set is not empty.
func (s stops) least(number func(stop int) int) (int, int) {
	first, smallest := -1, 0
	for stop := range api.MaxStops {
		if !s.has(stop) {
			continue
		}
		if x := number(stop); first < 0 || x < smallest {
			first, smallest = stop, x
		}
	}
	return first, smallest
}
