package relay

import (
	"cmp"
	"slices"

	"lampbox/api"
)

// tree has n houses, and the neighbors of each one.
type tree struct {
	n         int
	neighbors [api.MaxHouses]set
}

// readTree reads a tree, and reports whether n and the pairs are one.
func readTree(n int, pairs [][2]int) (tree, bool) {
	t := tree{n: n}
	if n < 1 || n > api.MaxHouses || len(pairs) != n-1 {
		return tree{}, false
	}
	for _, pair := range pairs {
		one, other := pair[0], pair[1]
		if !t.isHouse(one) || !t.isHouse(other) || one == other {
			return tree{}, false
		}
		t.neighbors[one] = t.neighbors[one].with(other)
		t.neighbors[other] = t.neighbors[other].with(one)
	}
	// Rings and repeated pairs need no check of their own: with them n - 1 pairs are too few to connect all houses.
	if !t.isConnected() {
		return tree{}, false
	}
	return t, true
}

func (t tree) isHouse(v int) bool {
	return v >= 0 && v < t.n
}

// isConnected reports whether one can go between every two houses. The pairs may still have rings.
func (t tree) isConnected() bool {
	var reached set
	var reach func(house int)
	reach = func(house int) {
		reached = reached.with(house)
		for _, next := range t.neighbors[house].list() {
			if !reached.has(next) {
				reach(next)
			}
		}
	}
	reach(0)
	return reached == first(t.n)
}

// far returns the number of pairs on the way to each house.
func (t tree) far(from int) []int {
	far := make([]int, t.n)
	var visit func(house, before int)
	visit = func(house, before int) {
		for _, next := range t.neighbors[house].without(before).list() {
			far[next] = far[house] + 1
			visit(next, house)
		}
	}
	visit(from, from)
	return far
}

// branch is the part of a tree that begins at a neighbor of a house, and the time of a spread in it from there.
type branch struct {
	house, time int
}

// branches returns the branches of a house, the slowest one first, without the one that begins at the house before it.
// The house from which the news comes has none before it, and is given as its own.
func (t tree) branches(house, before int) []branch {
	var all []branch
	for _, next := range t.neighbors[house].without(before).list() {
		all = append(all, branch{next, t.time(next, house)})
	}
	sortFalling(all, func(b branch) int { return b.time })
	return all
}

// sortFalling sorts a list by descending numbers, and leaves those with equal numbers in their order.
func sortFalling[T any](list []T, number func(T) int) {
	slices.SortStableFunc(list, func(a, b T) int { return cmp.Compare(number(b), number(a)) })
}

// time returns the smallest number of rounds in which the news spreads from a house to all its branches.
// It never helps a house to wait, or to call a faster branch before a slower one.
func (t tree) time(house, before int) int {
	time := 0
	for calls, b := range t.branches(house, before) {
		time = max(time, calls+1+b.time)
	}
	return time
}

// centers returns the houses with the smallest time, and this time.
func (t tree) centers() ([]int, int) {
	var houses []int
	smallest := 0
	for house := range t.n {
		time := t.time(house, house)
		if len(houses) == 0 || time < smallest {
			houses, smallest = nil, time
		}
		if time == smallest {
			houses = append(houses, house)
		}
	}
	return houses, smallest
}
