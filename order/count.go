package order

import "lampbox/api"

// most is the greatest statistic of an order that is counted: the inversions of a descending one.
const most = api.MaxCounted * (api.MaxCounted - 1) / 2

// growth returns by how much the statistic k of an order grows when its next number is put in at a place.
// There is one place more than the order has numbers.
type growth func(k, place int) int

// ordersWith returns how many orders of n numbers have the statistic k.
func ordersWith(n, k int, more growth) int {
	if k > most {
		return 0
	}
	many := [most + 1]int{0: 1}
	for length := range n {
		many = longer(many, length, more)
	}
	return many[k]
}

// longer returns how many orders have each statistic after the next number has been put into the orders of a length.
func longer(many [most + 1]int, length int, more growth) [most + 1]int {
	var next [most + 1]int
	for k, orders := range many {
		if orders == 0 {
			continue
		}
		for place := range length + 1 {
			next[k+more(k, place)] += orders
		}
	}
	return next
}

// moreInversions counts the places from the end: as many smaller numbers follow.
func moreInversions(_, place int) int {
	return place
}

// moreDescents counts the places at which a greatest number adds no descent first: those in the k descents, and the end.
func moreDescents(k, place int) int {
	if place > k {
		return 1
	}
	return 0
}

// moreCycles has one place for a cycle of its own, and the others within the cycles, one after each number.
func moreCycles(_, place int) int {
	if place == 0 {
		return 1
	}
	return 0
}
