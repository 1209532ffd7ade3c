package sums

import (
	"slices"

	"lampbox/api"
)

// group has two moduli. A group of one modulus has a 1 as the first one: its elements begin with a 0 that is not written.
type group [2]int

// element is an element of a group.
type element [2]int

// readGroup returns the group with a list of moduli, and reports whether it is one.
func readGroup(moduli []int) (group, bool) {
	if len(moduli) != 1 && len(moduli) != 2 {
		return group{}, false
	}
	for _, m := range moduli {
		if m < 2 || m > api.MaxModulus {
			return group{}, false
		}
	}
	g := group{1, 1}
	copy(g[len(g)-len(moduli):], moduli)
	return g, g[1]%g[0] == 0 && g[0]*g[1] <= api.MaxGroup
}

// hidden is how many numbers of an element are not written.
func (g group) hidden() int {
	if g[0] == 1 {
		return 1
	}
	return 0
}

// readElement returns the element with a list of numbers, and reports whether it is one.
func (g group) readElement(numbers []int) (element, bool) {
	var e element
	shown := e[g.hidden():]
	if len(numbers) != len(shown) {
		return element{}, false
	}
	copy(shown, numbers)
	return e, g.reduce(e) == e
}

// readList returns the elements of a list, and reports whether it is one.
func (g group) readList(list [][]int) ([]element, bool) {
	if len(list) > api.MaxList {
		return nil, false
	}
	elements := make([]element, len(list))
	for i, numbers := range list {
		e, ok := g.readElement(numbers)
		if !ok {
			return nil, false
		}
		elements[i] = e
	}
	return elements, true
}

// readBoth returns a group and the elements of a list, and reports whether both are right.
func readBoth(moduli []int, list [][]int) (group, []element, bool) {
	g, ok := readGroup(moduli)
	if !ok {
		return group{}, nil, false
	}
	elements, ok := g.readList(list)
	return g, elements, ok
}

// writeAll returns the lists of the numbers of elements.
func (g group) writeAll(elements []element) [][]int {
	all := make([][]int, len(elements))
	for i, e := range elements {
		all[i] = slices.Clone(e[g.hidden():])
	}
	return all
}

// reduce returns the element that two numbers are modulo the moduli.
func (g group) reduce(e element) element {
	for i, m := range g {
		e[i] = (e[i]%m + m) % m
	}
	return e
}

func (g group) plus(a, b element) element {
	return g.reduce(element{a[0] + b[0], a[1] + b[1]})
}

func (g group) minus(a, b element) element {
	return g.reduce(element{a[0] - b[0], a[1] - b[1]})
}

// order returns how many times an element must be added until the sum is zero.
func (g group) order(e element) int {
	times := 1
	for sum := e; sum != (element{}); sum = g.plus(sum, e) {
		times++
	}
	return times
}

// bound returns the smallest length for which no list is free.
func (g group) bound() int {
	return g[0] + g[1] - 1
}

// free returns a longest free list. No number of a part's sum reaches its modulus, so only the empty part has the sum zero.
func (g group) free() []element {
	return slices.Concat(
		slices.Repeat([]element{{0, 1}}, g[1]-1),
		slices.Repeat([]element{{1, 0}}, g[0]-1),
	)
}
