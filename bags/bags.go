// Package bags is layer 1: it finds the densest parts of graphs, with a proof that none is denser.
package bags

import (
	"slices"

	"lampbox/api"
)

// Densest returns the greatest set with the greatest density, this density, and a share that proves it.
func Densest(n int, edges []api.Edge) ([]int, api.Frac, [][2]int, api.Errno) {
	g, ok := readGraph(n, edges)
	if !ok {
		return nil, api.Frac{}, nil, api.ErrArg
	}
	set, density, d := g.densest()
	return set.list(), density, d.share(edges), api.OK
}

// Check returns OK if the share proves the density of the set.
func Check(n int, edges []api.Edge, set []int, share [][2]int) api.Errno {
	g, ok := readGraph(n, edges)
	if !ok {
		return api.ErrArg
	}
	s, ok := readSet(n, set)
	if !ok || !proves(edges, share, g.density(s)) {
		return api.ErrAnswer
	}
	return api.OK
}

// Density returns the density of a set.
func Density(n int, edges []api.Edge, set []int) (api.Frac, api.Errno) {
	g, ok := readGraph(n, edges)
	if !ok {
		return api.Frac{}, api.ErrArg
	}
	s, ok := readSet(n, set)
	if !ok {
		return api.Frac{}, api.ErrArg
	}
	return g.density(s), api.OK
}

// Orient returns an orientation with the smallest height, and a set with too many edges for a smaller one.
func Orient(n int, edges []api.Edge) ([]int, []int, api.Errno) {
	g, ok := readGraph(n, edges)
	if !ok {
		return nil, nil, api.ErrArg
	}
	set, density, _ := g.densest()
	if density.Num == 0 {
		return nil, nil, api.OK
	}
	// No set is denser than this height, so undivided edges can be spread that evenly;
	// the densest set is denser than the next smaller height.
	height := (density.Num + density.Den - 1) / density.Den
	d := g.divide(1)
	d.relieve(height)
	return d.heads(edges), set.list(), api.OK
}

// Height returns the height of an orientation.
func Height(n int, edges []api.Edge, heads []int) (int, api.Errno) {
	_, ok := readGraph(n, edges)
	if !ok || len(heads) != len(edges) {
		return 0, api.ErrArg
	}
	var count [api.MaxCorners]int
	for i, e := range edges {
		if heads[i] != e.A && heads[i] != e.B {
			return 0, api.ErrArg
		}
		count[heads[i]]++
	}
	return slices.Max(count[:]), api.OK
}

// Cores returns the core number of each vertex.
func Cores(n int, edges []api.Edge) ([]int, api.Errno) {
	g, ok := readGraph(n, edges)
	if !ok {
		return nil, api.ErrArg
	}
	order, left := g.peel()
	cores := make([]int, n)
	greatest := 0
	for i, v := range order {
		greatest = max(greatest, left[i])
		cores[v] = greatest
	}
	return cores, api.OK
}

// Peel returns the vertices in the order in which they are removed, always one with the fewest remaining neighbors,
// and the greatest number of such neighbors.
func Peel(n int, edges []api.Edge) ([]int, int, api.Errno) {
	g, ok := readGraph(n, edges)
	if !ok {
		return nil, 0, api.ErrArg
	}
	order, left := g.peel()
	return order, slices.Max(left), api.OK
}
