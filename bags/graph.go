package bags

import "lampbox/api"

// graph has for each of its n vertices the set of its neighbors.
type graph struct {
	n    int
	near [api.MaxCorners]vertices
}

// readGraph reads a graph, and reports whether n and the edges are one.
func readGraph(n int, edges []api.Edge) (graph, bool) {
	g := graph{n: n}
	if n < 1 || n > api.MaxCorners {
		return graph{}, false
	}
	for _, e := range edges {
		if e.A < 0 || e.A >= e.B || e.B >= n || g.near[e.A].has(e.B) {
			return graph{}, false
		}
		g.near[e.A] = g.near[e.A].with(e.B)
		g.near[e.B] = g.near[e.B].with(e.A)
	}
	return g, true
}

func (g graph) all() vertices {
	return firstVertices(g.n)
}

// density is that of a set which is not empty.
func (g graph) density(s vertices) api.Frac {
	ends := 0
	for v := range s.members() {
		ends += (g.near[v] & s).size()
	}
	return reduced(ends/2, s.size())
}

// peel returns the vertices in the order in which they are removed, and how many neighbors remained of each one then.
func (g graph) peel() ([]int, []int) {
	order := make([]int, 0, g.n)
	left := make([]int, 0, g.n)
	for remaining := g.all(); remaining != 0; {
		v, neighbors := g.loneliest(remaining)
		order = append(order, v)
		left = append(left, neighbors)
		remaining = remaining.without(v)
	}
	return order, left
}

// loneliest returns the smallest one of the vertices in s with the fewest neighbors in s, and how many it has.
func (g graph) loneliest(s vertices) (int, int) {
	best, fewest := 0, api.MaxCorners
	for v := range s.members() {
		neighbors := (g.near[v] & s).size()
		if neighbors < fewest {
			best, fewest = v, neighbors
		}
	}
	return best, fewest
}

// reduced is the valid fraction num / den, for a den that is at least 1.
func reduced(num, den int) api.Frac {
	a, b := num, den
	for b != 0 {
		a, b = b, a%b
	}
	return api.Frac{Num: num / a, Den: den / a}
}
