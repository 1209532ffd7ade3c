package streets_test

import (
	"math/rand/v2"
	"slices"
	"testing"

	"lampbox/api"
)

const huge = 1<<63 - 1

// sample is a net of the tests.
type sample struct {
	n       int
	streets []api.Street
}

func street(a, b, weight int) api.Street {
	return api.Street{A: a, B: b, Weight: weight}
}

// square is the first example of the chapter.
func square() sample {
	return sample{4, []api.Street{street(0, 1, 1), street(1, 2, 2), street(2, 3, 3), street(3, 0, 4)}}
}

// ring joins each vertex to the next one, and the last one to the first one.
func ring(n, weight int) sample {
	s := sample{n: n}
	for v := range n {
		s.streets = append(s.streets, street(v, (v+1)%n, weight))
	}
	return s
}

func complete(n, weight int) sample {
	s := sample{n: n}
	for a := range n {
		for b := range a {
			s.streets = append(s.streets, street(a, b, weight))
		}
	}
	return s
}

// bipartite joins each one of a vertices to each one of b others.
func bipartite(a, b, weight int) sample {
	s := sample{n: a + b}
	for u := range a {
		for v := range b {
			s.streets = append(s.streets, street(u, a+v, weight))
		}
	}
	return s
}

// path joins each vertex to the next one by many streets.
func path(n, many, weight int) sample {
	s := sample{n: n}
	for v := range n - 1 {
		s.streets = append(s.streets, slices.Repeat([]api.Street{street(v, v+1, weight)}, many)...)
	}
	return s
}

func petersen() sample {
	s := sample{n: 10}
	for v := range 5 {
		s.streets = append(s.streets, street(v, (v+1)%5, 7), street(v, v+5, 7), street(v+5, (v+2)%5+5, 7))
	}
	return s
}

// beside puts two nets side by side, and joins vertex 0 of both if bridged.
func beside(x, y sample, bridged bool) sample {
	s := sample{x.n + y.n, slices.Clone(x.streets)}
	for _, e := range y.streets {
		s.streets = append(s.streets, street(e.A+x.n, e.B+x.n, e.Weight))
	}
	if bridged {
		s.streets = append(s.streets, street(x.n, 0, 500))
	}
	return s
}

// smallNets are all nets with two, three or four vertices and few streets of two weights.
func smallNets() []sample {
	var all []sample
	for n, most := range []int{1: 0, 2: 5, 3: 4, 4: 4} {
		var possible []api.Street
		for _, e := range complete(n, 0).streets {
			possible = append(possible, e, street(e.B, e.A, 1))
		}
		var extend func(streets []api.Street)
		extend = func(streets []api.Street) {
			if n > 0 {
				all = append(all, sample{n, slices.Clone(streets)})
			}
			if len(streets) == most {
				return
			}
			for _, e := range possible {
				extend(append(slices.Clone(streets), e))
			}
		}
		extend(nil)
	}
	return all
}

func randomNet(r *rand.Rand, n, m, weights int) sample {
	s := sample{n: n}
	for range m {
		a, b := r.IntN(n), r.IntN(n-1)
		if b >= a {
			b++
		}
		s.streets = append(s.streets, street(a, b, r.IntN(weights)))
	}
	return s
}

// randomNets are the same ones in every run: thin ones and thick ones, with few and with many weights.
func randomNets() []sample {
	r := rand.New(rand.NewPCG(1, 2))
	var all []sample
	for range 12 {
		for n := 2; n <= 7; n++ {
			all = append(all, randomNet(r, n, n-1, 3), randomNet(r, n, n+2, 2), randomNet(r, n, 2*n-1, 4), randomNet(r, n, n+3, 12))
		}
	}
	return all
}

// testedNets are small enough to list all their spanning trees.
func testedNets() []sample {
	return slices.Concat(smallNets(), randomNets(), []sample{
		square(), ring(3, 5), ring(8, 1000), complete(4, 3), path(4, 3, 2), path(2, 60, 9), {n: 1}, {n: 2}, {n: 16},
		beside(ring(3, 1), ring(4, 2), true), beside(ring(3, 1), ring(3, 2), false),
		beside(complete(4, 0), path(3, 2, 1000), true), beside(path(2, 1, 0), path(3, 1, 0), true),
	})
}

// greatNets have up to 16 vertices and up to 60 streets.
func greatNets() []sample {
	r := rand.New(rand.NewPCG(3, 4))
	var all []sample
	for range 10 {
		for n := 8; n <= api.MaxBoxes; n++ {
			all = append(all, randomNet(r, n, 60, 3), randomNet(r, n, 60, 1001), randomNet(r, n, 2*n, 10), randomNet(r, n, n, 2))
		}
	}
	return append(all, bipartite(6, 10, 1), complete(11, 1000), petersen(), path(16, 4, 0), ring(16, 3))
}

// reach returns for each vertex the smallest one that is connected to it by the streets for which keep is true.
func (s sample) reach(keep func(i int) bool) []int {
	near := make([][]int, s.n)
	for i, e := range s.streets {
		if keep(i) {
			near[e.A] = append(near[e.A], e.B)
			near[e.B] = append(near[e.B], e.A)
		}
	}
	first := slices.Repeat([]int{-1}, s.n)
	var visit func(v, name int)
	visit = func(v, name int) {
		if first[v] < 0 {
			first[v] = name
			for _, w := range near[v] {
				visit(w, name)
			}
		}
	}
	for v := range s.n {
		visit(v, v)
	}
	return first
}

func (s sample) reachBy(list []int) []int {
	return s.reach(func(i int) bool { return slices.Contains(list, i) })
}

func (s sample) connects(list []int) bool {
	return slices.Max(s.reachBy(list)) == 0
}

// isTree is written as the terms are.
func (s sample) isTree(list []int) bool {
	ascending := slices.IsSorted(list) && len(slices.Compact(slices.Clone(list))) == len(list)
	return ascending && len(list) == s.n-1 && s.connects(list)
}

func (s sample) weight(list []int) int {
	sum := 0
	for _, i := range list {
		sum += s.streets[i].Weight
	}
	return sum
}

// trees lists all spanning trees.
func (s sample) trees() [][]int {
	var all [][]int
	var extend func(list []int, next int)
	extend = func(list []int, next int) {
		if len(list) == s.n-1 {
			if s.connects(list) {
				all = append(all, slices.Clone(list))
			}
			return
		}
		for i := next; i < len(s.streets); i++ {
			extend(append(slices.Clone(list), i), i+1)
		}
	}
	extend(nil, 0)
	return all
}

// smallest returns those of the trees that weigh least.
func (s sample) smallest(trees [][]int) [][]int {
	var best [][]int
	for _, tree := range trees {
		if len(best) > 0 && s.weight(tree) < s.weight(best[0]) {
			best = nil
		}
		if len(best) == 0 || s.weight(tree) == s.weight(best[0]) {
			best = append(best, tree)
		}
	}
	return best
}

// inOrder lists the streets in their order.
func (s sample) inOrder() []int {
	var order []int
	for weight := range api.MaxWeight + 1 {
		for i, e := range s.streets {
			if e.Weight == weight {
				order = append(order, i)
			}
		}
	}
	return order
}

// taken lists the streets of the first tree as they are taken, or of as much of it as there is.
func (s sample) taken() []int {
	var list []int
	for _, i := range s.inOrder() {
		first := s.reachBy(list)
		if first[s.streets[i].A] != first[s.streets[i].B] {
			list = append(list, i)
		}
	}
	return list
}

func sorted(list []int) []int {
	return slices.Sorted(slices.Values(list))
}

// notNets have one fault each, but for the last ones.
func notNets() []sample {
	with := func(e api.Street) []api.Street { return []api.Street{street(0, 1, 5), street(1, 2, 5), e} }
	return []sample{
		{n: 0}, {n: -1}, {n: 17}, {n: huge}, {n: -huge - 1},
		{3, with(street(0, 0, 5))}, {3, with(street(2, 2, 5))}, {3, with(street(0, 3, 5))}, {3, with(street(3, 0, 5))},
		{3, with(street(-1, 0, 5))}, {3, with(street(0, -1, 5))}, {3, with(street(huge, 0, 5))}, {3, with(street(0, -huge-1, 5))},
		{3, with(street(0, 2, -1))}, {3, with(street(0, 2, 1001))}, {3, with(street(0, 2, huge))}, {3, with(street(0, 2, -huge-1))},
		{16, with(street(0, 16, 5))}, {1, []api.Street{street(0, 0, 5)}}, {1, []api.Street{street(0, 1, 5)}},
		path(2, 61, 5), path(2, 100000, 5), {3, make([]api.Street, 100000)}, {0, with(street(0, 2, 5))},
		{17, with(street(0, 0, -1))},
	}
}

// notConnected have no spanning tree.
func notConnected() []sample {
	return []sample{
		{n: 2}, {n: 16}, {3, []api.Street{street(0, 1, 5)}}, {3, []api.Street{street(0, 2, 5), street(2, 0, 4), street(0, 2, 0)}},
		beside(ring(3, 1), ring(3, 2), false), beside(ring(15, 1), sample{n: 1}, false), beside(sample{n: 1}, complete(11, 1), false),
	}
}

func wantErr(t *testing.T, what string, got, want api.Errno) {
	t.Helper()
	if got != want {
		t.Errorf("%s: error %d, want %d", what, got, want)
	}
}
