package seals

import "iter"

// areCuts reports whether a list has different positions from first to the one before end, in ascending order.
func areCuts(list []int, first, end int) bool {
	for _, at := range list {
		if at < first || at >= end {
			return false
		}
		first = at + 1
	}
	return true
}

// lists visits the lists of so many different positions from first to the one before end, in ascending order;
// the lexicographically smaller ones come first. Each list is overwritten by the next one.
func lists(first, end, many int) iter.Seq[[]int] {
	return func(yield func([]int) bool) {
		extend(make([]int, 0, many), first, end, many, yield)
	}
}

// extend visits the lists that begin with a list and have so many more positions, until yield returns false.
func extend(list []int, first, end, many int, yield func([]int) bool) bool {
	if many == 0 {
		return yield(list)
	}
	for at := first; at < end; at++ {
		if !extend(append(list, at), at+1, end, many-1, yield) {
			return false
		}
	}
	return true
}
