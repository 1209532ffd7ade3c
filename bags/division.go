package bags

import "lampbox/api"

// division tells what each vertex has of its edges, each of which counts the same number of pieces.
// Of an edge between u and v, u has the pieces has[u][v]: as many can still be moved from u to v.
type division struct {
	graph
	has  [api.MaxCorners][api.MaxCorners]int
	load [api.MaxCorners]int
}

// divide gives all the pieces of each edge to its smaller end.
func (g graph) divide(pieces int) *division {
	d := &division{graph: g}
	for u := range g.all().members() {
		for v := range g.near[u].members() {
			if u < v {
				d.has[u][v] = pieces
				d.load[u] += pieces
			}
		}
	}
	return d
}

// densest returns the greatest set with the greatest density, this density, and a division that proves it.
func (g graph) densest() (vertices, api.Frac, *division) {
	density := g.density(g.all())
	for {
		d := g.divide(density.Den)
		denser := d.relieve(density.Num)
		if denser == 0 {
			return d.full(density.Num), density, d
		}
		density = g.density(denser)
	}
}

// relieve moves pieces until no load is greater than the limit, and returns the empty set.
// If this is impossible, it returns a set that proves it: its load is too great, and is only that of the edges inside it.
func (d *division) relieve(limit int) vertices {
	for v := range d.all().members() {
		for d.load[v] > limit {
			way, reached := d.wayOut(v, limit)
			if len(way) == 0 {
				return reached
			}
			d.move(way, limit)
		}
	}
	return 0
}

// wayOut returns a shortest way on which pieces can be moved from a vertex to another one whose load is less than the limit.
// If there is none, the way is empty. The set has the vertices that were reached.
func (d *division) wayOut(from, limit int) ([]int, vertices) {
	var before [api.MaxCorners]int
	var way []int
	reached := vertices(0).with(from)
	queue := []int{from}
search:
	for len(queue) > 0 {
		at := queue[0]
		queue = queue[1:]
		for next := range (d.near[at] &^ reached).members() {
			if d.has[at][next] == 0 {
				continue
			}
			reached = reached.with(next)
			before[next] = at
			if d.load[next] < limit {
				way = wayBack(before, from, next)
				break search
			}
			queue = append(queue, next)
		}
	}
	return way, reached
}

// wayBack lists the vertices from the last one of a way to the first one.
func wayBack(before [api.MaxCorners]int, first, last int) []int {
	way := []int{last}
	for v := last; v != first; {
		v = before[v]
		way = append(way, v)
	}
	return way
}

// move moves pieces on a way, listed from its end, as many as possible without going beyond what is needed at either end.
func (d *division) move(way []int, limit int) {
	to, from := way[0], way[len(way)-1]
	pieces := min(d.load[from]-limit, limit-d.load[to])
	for i, u := range way[1:] {
		pieces = min(pieces, d.has[u][way[i]])
	}
	for i, u := range way[1:] {
		v := way[i]
		d.has[u][v] -= pieces
		d.has[v][u] += pieces
	}
	d.load[from] -= pieces
	d.load[to] += pieces
}

// full returns the vertices with the load limit from which nothing can be moved to a smaller load, where no load is greater.
// Every densest set consists of such vertices, as their loads are just those of the edges inside it;
// and all of them together are one, as none has a piece of an edge to another vertex.
func (d *division) full(limit int) vertices {
	var s vertices
	for v := range d.all().members() {
		way, _ := d.wayOut(v, limit)
		if d.load[v] == limit && len(way) == 0 {
			s = s.with(v)
		}
	}
	return s
}

// share lists for each edge what its ends have of it.
func (d *division) share(edges []api.Edge) [][2]int {
	share := make([][2]int, len(edges))
	for i, e := range edges {
		share[i] = [2]int{d.has[e.A][e.B], d.has[e.B][e.A]}
	}
	return share
}

// heads lists for each edge the end that has a piece of it.
func (d *division) heads(edges []api.Edge) []int {
	heads := make([]int, len(edges))
	for i, e := range edges {
		heads[i] = e.A
		if d.has[e.B][e.A] > 0 {
			heads[i] = e.B
		}
	}
	return heads
}

// proves reports whether a list is a share of the edges of a graph that proves the fraction.
func proves(edges []api.Edge, share [][2]int, f api.Frac) bool {
	if len(share) != len(edges) {
		return false
	}
	var load [api.MaxCorners]int
	for i, e := range edges {
		a, b := share[i][0], share[i][1]
		if a < 0 || a > f.Den || b != f.Den-a {
			return false
		}
		load[e.A] += a
		load[e.B] += b
	}
	for _, l := range load {
		if l > f.Num {
			return false
		}
	}
	return true
}
