package round

import (
	"cmp"
	"slices"

	"lampbox/api"
)

// edge connects two stops, the smaller one and the greater one, at a cost.
type edge struct {
	smaller, greater, cost int
}

// edges returns all edges in ascending order of their costs, then of the smaller end, then of the greater end.
func (m miles) edges(p prices) []edge {
	var edges []edge
	for greater := range m.n {
		for smaller := range greater {
			edges = append(edges, edge{smaller, greater, m.at[smaller][greater] + p[smaller] + p[greater]})
		}
	}
	slices.SortFunc(edges, func(e, f edge) int {
		return decided(cmp.Compare(e.cost, f.cost), cmp.Compare(e.smaller, f.smaller), cmp.Compare(e.greater, f.greater))
	})
	return edges
}

// decided returns the first one of several comparisons that is not a draw.
func decided(comparisons ...int) int {
	for _, c := range comparisons {
		if c != 0 {
			return c
		}
	}
	return 0
}

// tree takes the edges in their order, each one if its ends are not connected yet.
func tree(edges []edge) []edge {
	var taken []edge
	var connected [api.MaxStops]int // the smallest stop that is connected with each one
	for stop := range connected {
		connected[stop] = stop
	}
	for _, e := range edges {
		one, other := connected[e.smaller], connected[e.greater]
		if one == other {
			continue
		}
		taken = append(taken, e)
		for stop, first := range connected {
			if first == max(one, other) {
				connected[stop] = min(one, other)
			}
		}
	}
	return taken
}

// double returns the stops in the order in which one first visits them along the smallest spanning tree, from 0.
func (m miles) double() []int {
	var neighbors [api.MaxStops]stops
	for _, e := range tree(m.edges(prices{})) {
		neighbors[e.smaller] = neighbors[e.smaller].with(e.greater)
		neighbors[e.greater] = neighbors[e.greater].with(e.smaller)
	}
	var visited []int
	var visit func(stop, from int)
	visit = func(stop, from int) {
		visited = append(visited, stop)
		for _, next := range neighbors[stop].list() {
			// In a tree only the stop from which one came was visited before.
			if next != from {
				visit(next, stop)
			}
		}
	}
	visit(0, 0)
	return visited
}
