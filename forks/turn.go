package forks

import "slices"

// turned returns the vector after turning right or left at a fork, and reports whether this has the form that is needed.
func (v vector) turned(fork int, right bool) (vector, bool) {
	if right {
		return v.turnedRight(fork)
	}
	return v.turnedLeft(fork)
}

// turnedRight turns ((AB)C) into (A(BC)): the fork of A and B gets the other fork and C into its right part.
func (v vector) turnedRight(fork int) (vector, bool) {
	// Of several forks whose right parts end just before this one, the first one is the root of its left part.
	for root := range fork {
		if root+v[root] == fork-1 {
			v[root] += 1 + v[fork]
			return v, true
		}
	}
	return v, false
}

// turnedLeft turns (A(BC)) into ((AB)C): the fork of A loses the other fork and C from its right part.
func (v vector) turnedLeft(fork int) (vector, bool) {
	end := fork + v[fork]
	for root := fork + 1; root <= end; root++ {
		if root+v[root] == end {
			v[fork] -= 1 + v[root]
			return v, true
		}
	}
	return v, false
}

// turns returns what one turn to a side makes of a tree with n forks.
func (v vector) turns(n int, right bool) []vector {
	var all []vector
	for fork := range n {
		if next, ok := v.turned(fork, right); ok {
			all = append(all, next)
		}
	}
	return all
}

// above returns the trees that one turn to the right makes of a tree, in ascending order.
func above(t tree) []string {
	var texts []string
	for _, next := range vectorOf(t).turns(t.forks(), true) {
		texts = append(texts, next.text(t.forks()))
	}
	slices.Sort(texts)
	return texts
}

// shortestWay searches from the end of the way, so that each tree it reaches knows the one that follows on the way there.
func shortestWay(n int, start, end vector) []string {
	following := map[vector]vector{end: end}
	reached := []vector{end}
	for at := 0; at < len(reached) && reached[at] != start; at++ {
		v := reached[at]
		for _, next := range slices.Concat(v.turns(n, true), v.turns(n, false)) {
			if _, known := following[next]; !known {
				following[next] = v
				reached = append(reached, next)
			}
		}
	}
	way := []string{start.text(n)}
	for v := start; v != end; {
		v = following[v]
		way = append(way, v.text(n))
	}
	return way
}

// climb is a search for the most right turns by which a tree with n forks is reached.
type climb struct {
	n    int
	to   vector
	most map[vector]int // from the vectors that have been searched
}

// from returns the most turns from a vector below the one that is to be reached.
func (c climb) from(v vector) int {
	if known, ok := c.most[v]; ok {
		return known
	}
	most := 0
	for _, next := range v.turns(c.n, true) {
		if next.below(c.to) {
			most = max(most, 1+c.from(next))
		}
	}
	c.most[v] = most
	return most
}
