package bags_test

import (
	"slices"
	"testing"

	"lampbox/api"
	"lampbox/bags"
)

// coresByTrial visits all sets: every vertex of a set has at least the smallest number of neighbors in it as its core number.
func coresByTrial(s sample) []int {
	near := make([]int, s.n)
	for _, e := range s.edges {
		near[e.A] |= 1 << e.B
		near[e.B] |= 1 << e.A
	}
	cores := make([]int, s.n)
	for set := 1; set < 1<<s.n; set++ {
		list := listOf(set)
		fewest := s.n
		for _, v := range list {
			fewest = min(fewest, len(listOf(near[v]&set)))
		}
		for _, v := range list {
			cores[v] = max(cores[v], fewest)
		}
	}
	return cores
}

// P1.3.
func TestCores(t *testing.T) {
	for _, s := range allGraphs() {
		cores, err := bags.Cores(s.n, s.edges)
		if want := coresByTrial(s); err != api.OK || !slices.Equal(cores, want) {
			t.Fatalf("Cores(%v) = %v %d, want %v", s, cores, err, want)
		}
	}
}

// P1.3: graphs whose core numbers are known.
func TestCoresOfKnownGraphs(t *testing.T) {
	fourAndTail := sample{6, append(pairs(4), api.Edge{A: 3, B: 4}, api.Edge{A: 4, B: 5})}
	for _, x := range []struct {
		s    sample
		want []int
	}{
		{sample{n: 1}, []int{0}},
		{fourAndTail, []int{3, 3, 3, 3, 1, 1}},
		{beside(ring(4), sample{n: 1}), []int{2, 2, 2, 2, 0}},
		{complete(16), slices.Repeat([]int{15}, 16)},
		{petersen(), slices.Repeat([]int{3}, 10)},
	} {
		if cores, err := bags.Cores(x.s.n, x.s.edges); err != api.OK || !slices.Equal(cores, x.want) {
			t.Errorf("Cores(%v) = %v %d, want %v", x.s, cores, err, x.want)
		}
	}
}

// peelByHand removes one vertex after the other.
func peelByHand(s sample) ([]int, int) {
	var order []int
	greatest := 0
	remaining := s.everybody()
	for len(remaining) > 0 {
		best := 0
		for i, v := range remaining {
			if s.degree(v, remaining) < s.degree(remaining[best], remaining) {
				best = i
			}
		}
		greatest = max(greatest, s.degree(remaining[best], remaining))
		order = append(order, remaining[best])
		remaining = slices.Delete(remaining, best, best+1)
	}
	return order, greatest
}

// P1.3.
func TestPeel(t *testing.T) {
	for _, s := range allGraphs() {
		order, most, err := bags.Peel(s.n, s.edges)
		wantOrder, want := peelByHand(s)
		if err != api.OK || most != want || !slices.Equal(order, wantOrder) {
			t.Fatalf("Peel(%v) = %v %d %d, want %v %d", s, order, most, err, wantOrder, want)
		}
	}
}

// P1.3: graphs whose orders are known; the smallest one of several vertices comes first.
func TestPeelOfKnownGraphs(t *testing.T) {
	star := sample{4, []api.Edge{{A: 0, B: 1}, {A: 0, B: 2}, {A: 0, B: 3}}}
	for _, x := range []struct {
		s     sample
		order []int
		most  int
	}{
		{sample{n: 1}, []int{0}, 0},
		{sample{n: 3}, []int{0, 1, 2}, 0},
		{star, []int{1, 2, 0, 3}, 1},
		{ring(5), []int{0, 1, 2, 3, 4}, 2},
		{beside(complete(4), complete(2)), []int{4, 5, 0, 1, 2, 3}, 3},
		{complete(16), complete(16).everybody(), 15},
	} {
		order, most, err := bags.Peel(x.s.n, x.s.edges)
		if err != api.OK || most != x.most || !slices.Equal(order, x.order) {
			t.Errorf("Peel(%v) = %v %d %d, want %v %d", x.s, order, most, err, x.order, x.most)
		}
	}
}
