package order

import (
	"slices"

	"lampbox/api"
)

// permutation is an order. The places behind its last number have 0.
type permutation [api.MaxOrder]int

// ascending returns the order of the numbers from 1 to n in which each stands at its own place.
func ascending(n int) permutation {
	var p permutation
	for i := range n {
		p[i] = i + 1
	}
	return p
}

// readOrder returns the order with a list of numbers, and reports whether it is one.
func readOrder(order []int) (permutation, bool) {
	if len(order) > api.MaxOrder {
		return permutation{}, false
	}
	var p permutation
	copy(p[:], order)
	sorted := p
	slices.Sort(sorted[:len(order)])
	return p, sorted == ascending(len(order))
}

// length is the greatest number, because the numbers are those from 1 on.
func (p permutation) length() int {
	return slices.Max(p[:])
}

func (p permutation) list() []int {
	return slices.Clone(p[:p.length()])
}

func (p permutation) inverse() permutation {
	var q permutation
	for i := range p.length() {
		q[p[i]-1] = i + 1
	}
	return q
}

func (p permutation) isDescent(i int) bool {
	return i > 0 && p[i-1] > p[i]
}

func (p permutation) isExcedance(i int) bool {
	return p[i] > i+1
}

func (p permutation) isRecord(i int) bool {
	return slices.Max(p[:i+1]) == p[i]
}

// isGreatest reports whether the number i + 1 is the greatest one of its cycle.
func (p permutation) isGreatest(i int) bool {
	return slices.Max(p.cycle(i+1)) == i+1
}

// cycle returns the numbers of the cycle that begins with a number.
func (p permutation) cycle(number int) []int {
	cycle := []int{number}
	for next := p[number-1]; next != number; next = p[next-1] {
		cycle = append(cycle, next)
	}
	return cycle
}
