package bags_test

import (
	"math/rand/v2"
	"slices"
	"testing"

	"lampbox/api"
)

// sample is a graph of the tests.
type sample struct {
	n     int
	edges []api.Edge
}

func pairs(n int) []api.Edge {
	var all []api.Edge
	for a := range n {
		for b := a + 1; b < n; b++ {
			all = append(all, api.Edge{A: a, B: b})
		}
	}
	return all
}

func complete(n int) sample {
	return sample{n, pairs(n)}
}

// ring joins each vertex to the next one, and the last one to the first one.
func ring(n int) sample {
	s := sample{n: n}
	for v := range n - 1 {
		s.edges = append(s.edges, api.Edge{A: v, B: v + 1})
	}
	s.edges = append(s.edges, api.Edge{A: 0, B: n - 1})
	return s
}

// petersen has ten vertices with three neighbors each.
func petersen() sample {
	s := sample{n: 10}
	for v := range 5 {
		s.edges = append(s.edges, ordered(v, (v+1)%5), ordered(v, v+5), ordered(v+5, (v+2)%5+5))
	}
	return s
}

func ordered(a, b int) api.Edge {
	return api.Edge{A: min(a, b), B: max(a, b)}
}

// beside puts two graphs side by side, without an edge between them.
func beside(x, y sample) sample {
	s := sample{x.n + y.n, slices.Clone(x.edges)}
	for _, e := range y.edges {
		s.edges = append(s.edges, api.Edge{A: e.A + x.n, B: e.B + x.n})
	}
	return s
}

// smallGraphs are all graphs with at most five vertices.
func smallGraphs() []sample {
	var all []sample
	for n := 1; n <= 5; n++ {
		possible := pairs(n)
		for bits := range 1 << len(possible) {
			s := sample{n: n}
			for i, e := range possible {
				if bits>>i&1 == 1 {
					s.edges = append(s.edges, e)
				}
			}
			all = append(all, s)
		}
	}
	return all
}

// randomGraph takes each possible edge with a chance of percent in 100, in a random order.
func randomGraph(r *rand.Rand, n, percent int) sample {
	s := sample{n: n}
	for _, e := range pairs(n) {
		if r.IntN(100) < percent {
			s.edges = append(s.edges, e)
		}
	}
	r.Shuffle(len(s.edges), func(i, j int) { s.edges[i], s.edges[j] = s.edges[j], s.edges[i] })
	return s
}

// randomGraphs are the same ones in every run: thin ones, thick ones, and uneven ones.
func randomGraphs() []sample {
	r := rand.New(rand.NewPCG(1, 1))
	var all []sample
	for n := 6; n <= 12; n++ {
		for _, percent := range []int{10, 20, 35, 50, 80} {
			all = append(all, randomGraph(r, n, percent))
		}
		s := beside(randomGraph(r, n/2, 70), randomGraph(r, n-n/2, 30))
		all = append(all, s)
	}
	return append(all, randomGraph(r, 16, 15), randomGraph(r, 16, 30), randomGraph(r, 16, 60))
}

func namedGraphs() []sample {
	return []sample{
		complete(1), complete(2), complete(16), ring(3), ring(16), petersen(), {n: 1}, {n: 16},
		beside(complete(4), complete(4)), beside(ring(3), complete(5)), beside(beside(complete(4), sample{n: 3}), complete(4)),
	}
}

func allGraphs() []sample {
	return slices.Concat(smallGraphs(), randomGraphs(), namedGraphs())
}

// degree counts the neighbors of v in the set.
func (s sample) degree(v int, set []int) int {
	count := 0
	for _, e := range s.edges {
		if e.A == v && slices.Contains(set, e.B) || e.B == v && slices.Contains(set, e.A) {
			count++
		}
	}
	return count
}

// inside counts the edges in a set that is given by bits.
func (s sample) inside(set int) int {
	count := 0
	for _, e := range s.edges {
		count += set >> e.A & (set >> e.B) & 1
	}
	return count
}

func bitsOf(list []int) int {
	set := 0
	for _, v := range list {
		set |= 1 << v
	}
	return set
}

func listOf(set int) []int {
	var list []int
	for v := range api.MaxCorners {
		if set>>v&1 == 1 {
			list = append(list, v)
		}
	}
	return list
}

func (s sample) everybody() []int {
	return listOf(1<<s.n - 1)
}

// isSet reports whether a list is a non-empty list of different vertices in ascending order.
func (s sample) isSet(list []int) bool {
	return len(list) > 0 && slices.Equal(list, listOf(bitsOf(list)&(1<<s.n-1)))
}

func divisor(a, b int) int {
	for b != 0 {
		a, b = b, a%b
	}
	return a
}

// valid is the valid fraction of two numbers, the second one of which is at least 1.
func valid(num, den int) api.Frac {
	d := divisor(num, den)
	return api.Frac{Num: num / d, Den: den / d}
}

func compare(f, g api.Frac) int {
	return f.Num*g.Den - g.Num*f.Den
}

// notGraphs have one fault each, but for the last ones.
func notGraphs() []sample {
	huge := 1<<63 - 1
	edge := func(a, b int) []api.Edge { return []api.Edge{{A: 0, B: 1}, {A: a, B: b}} }
	return []sample{
		{n: 0}, {n: -1}, {n: 17}, {n: huge}, {n: -huge - 1},
		{3, edge(1, 1)}, {3, edge(2, 1)}, {3, edge(1, 0)}, {3, edge(0, 1)}, {3, edge(1, 3)}, {3, edge(-1, 2)},
		{16, edge(15, 16)}, {3, edge(0, huge)}, {3, edge(-huge-1, 0)}, {3, edge(-huge-1, huge)}, {1, edge(0, 1)},
		{16, slices.Repeat(pairs(16), 2)}, {3, make([]api.Edge, 100000)}, {0, edge(1, 0)},
	}
}

func wantErr(t *testing.T, what string, got, want api.Errno) {
	t.Helper()
	if got != want {
		t.Errorf("%s: error %d, want %d", what, got, want)
	}
}
