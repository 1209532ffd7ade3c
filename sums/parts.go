package sums

import (
	"maps"
	"slices"
)

// shortest returns the lexicographically smallest one of the shortest non-empty parts of a list with a sum,
// or nil if there is none.
func (g group) shortest(list []element, sum element) []int {
	known := make([]map[element][]int, len(list))
	for i := range known {
		known[i] = map[element][]int{}
	}
	var find func(from int, sum element) []int
	find = func(from int, sum element) []int {
		if from == len(list) {
			return nil
		}
		if list[from] == sum {
			return []int{from}
		}
		part, ok := known[from][sum]
		if ok {
			return part
		}
		part = find(from+1, sum)
		rest := find(from+1, g.minus(sum, list[from]))
		// Of two parts with the same length, the one that has the first position is smaller.
		if rest != nil && (part == nil || len(rest) < len(part)) {
			part = slices.Concat([]int{from}, rest)
		}
		known[from][sum] = part
		return part
	}
	return find(0, sum)
}

// sums returns the sums of all non-empty parts of a list, in lexicographic order.
func (g group) sums(list []element) []element {
	all := map[element]bool{}
	for _, e := range list {
		more := map[element]bool{e: true}
		for sum := range all {
			more[g.plus(sum, e)] = true
		}
		maps.Copy(all, more)
	}
	return slices.SortedFunc(maps.Keys(all), func(a, b element) int { return slices.Compare(a[:], b[:]) })
}
