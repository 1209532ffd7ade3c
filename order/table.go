package order

import (
	"slices"

	"lampbox/api"
)

// isTable reports whether a list is the table of an order.
func isTable(table []int) bool {
	if len(table) > api.MaxOrder {
		return false
	}
	for i, smaller := range table {
		if smaller < 0 || smaller >= len(table)-i {
			return false
		}
	}
	return true
}

// table returns for each position how many smaller numbers stand after it.
func (p permutation) table() []int {
	table := make([]int, p.length())
	for i := range table {
		for _, later := range p[i:len(table)] {
			if later < p[i] {
				table[i]++
			}
		}
	}
	return table
}

// withTable returns the order with a table: each number has as many smaller ones among those that are left.
func withTable(table []int) permutation {
	var p permutation
	all := ascending(len(table))
	left := all[:len(table)]
	for i, smaller := range table {
		p[i] = left[smaller]
		left = slices.Delete(left, smaller, smaller+1)
	}
	return p
}

// placeOf returns how many orders come before the one with a table. Orders come as their tables do, and the number
// at a position can have as many values as positions are left: the tables are numbers written with these bases.
func placeOf(table []int) int {
	place := 0
	for i, smaller := range table {
		place = place*(len(table)-i) + smaller
	}
	return place
}

// tableAt returns the table of the order of n numbers that has k orders before it, and reports whether there is one.
func tableAt(n, k int) ([]int, bool) {
	table := make([]int, n)
	for after := range n {
		table[n-1-after] = k % (after + 1)
		k /= after + 1
	}
	return table, k == 0
}
