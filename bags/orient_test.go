package bags_test

import (
	"slices"
	"testing"

	"lampbox/api"
	"lampbox/bags"
)

// height returns the height of the heads, or -1 if they are not an orientation.
func height(s sample, heads []int) int {
	if len(heads) != len(s.edges) {
		return -1
	}
	count := make([]int, s.n)
	for i, e := range s.edges {
		if heads[i] != e.A && heads[i] != e.B {
			return -1
		}
		count[heads[i]]++
	}
	return slices.Max(count)
}

// P1.2, P1.4 (the smallest height is the density, rounded up), P3.
func TestOrient(t *testing.T) {
	for _, s := range allGraphs() {
		heads, proof, err := bags.Orient(s.n, s.edges)
		h := height(s, heads)
		if err != api.OK || h < 0 {
			t.Fatalf("Orient(%v) = %v %v %d", s, heads, proof, err)
		}
		_, f, _, _ := bags.Densest(s.n, s.edges)
		if want := (f.Num + f.Den - 1) / f.Den; h != want {
			t.Fatalf("Orient(%v) has the height %d, want %d", s, h, want)
		}
		if len(s.edges) == 0 {
			if len(proof) != 0 {
				t.Fatalf("Orient(%v) proves %v without edges", s, proof)
			}
			continue
		}
		if !s.isSet(proof) || s.inside(bitsOf(proof)) <= (h-1)*len(proof) {
			t.Fatalf("Orient(%v): %v does not prove %d", s, proof, h)
		}
	}
}

// smallestHeight tries all orientations.
func smallestHeight(s sample) int {
	best := len(s.edges)
	heads := make([]int, len(s.edges))
	for code := range 1 << len(s.edges) {
		for i, e := range s.edges {
			heads[i] = e.A
			if code>>i&1 == 1 {
				heads[i] = e.B
			}
		}
		best = min(best, height(s, heads))
	}
	return best
}

// P1.2: no orientation has a smaller height.
func TestOrientIsSmallest(t *testing.T) {
	for _, s := range append(smallGraphs(), ring(9), complete(2)) {
		heads, _, err := bags.Orient(s.n, s.edges)
		if want := smallestHeight(s); err != api.OK || height(s, heads) != want {
			t.Fatalf("Orient(%v) = %v %d, want the height %d", s, heads, err, want)
		}
	}
}

// P1.2: graphs whose smallest heights are known.
func TestOrientOfKnownGraphs(t *testing.T) {
	for _, x := range []struct {
		s    sample
		want int
	}{
		{sample{n: 1}, 0}, {sample{n: 16}, 0}, {complete(2), 1}, {ring(16), 1}, {complete(4), 2}, {petersen(), 2},
		{complete(5), 2}, {complete(16), 8}, {beside(complete(4), complete(10)), 5},
	} {
		heads, _, err := bags.Orient(x.s.n, x.s.edges)
		if got := height(x.s, heads); got != x.want || err != api.OK {
			t.Errorf("Orient(%v) has the height %d, want %d", x.s, got, x.want)
		}
	}
}

// P1.2.
func TestHeight(t *testing.T) {
	star := sample{4, []api.Edge{{A: 0, B: 3}, {A: 1, B: 3}, {A: 2, B: 3}}}
	for _, x := range []struct {
		heads []int
		want  int
	}{
		{[]int{0, 1, 2}, 1}, {[]int{3, 1, 2}, 1}, {[]int{3, 1, 3}, 2}, {[]int{3, 3, 3}, 3},
	} {
		if h, err := bags.Height(star.n, star.edges, x.heads); h != x.want || err != api.OK {
			t.Errorf("Height(%v) = %d %d, want %d", x.heads, h, err, x.want)
		}
	}
	if h, err := bags.Height(3, nil, nil); h != 0 || err != api.OK {
		t.Errorf("Height without edges = %d %d", h, err)
	}
	for _, s := range allGraphs() {
		smaller := make([]int, len(s.edges))
		for i, e := range s.edges {
			smaller[i] = e.A
		}
		if h, err := bags.Height(s.n, s.edges, smaller); h != height(s, smaller) || err != api.OK {
			t.Fatalf("Height(%v, %v) = %d %d", s, smaller, h, err)
		}
	}
}

// P1.2.
func TestHeightOfWrongHeads(t *testing.T) {
	huge := 1<<63 - 1
	s := sample{4, []api.Edge{{A: 0, B: 3}, {A: 1, B: 3}, {A: 2, B: 3}}}
	for _, heads := range [][]int{
		nil, {}, {0, 1}, {0, 1, 2, 3}, {0, 1, 1}, {0, 1, 4}, {-1, 1, 2}, {1, 1, 2}, {huge, 1, 2}, {0, -huge - 1, 2}, make([]int, 100000),
	} {
		h, err := bags.Height(s.n, s.edges, heads)
		wantErr(t, "Height", err, api.ErrArg)
		if h != 0 {
			t.Errorf("Height(%v) = %d with an error", heads, h)
		}
	}
	_, err := bags.Height(2, nil, []int{0})
	wantErr(t, "Height without edges", err, api.ErrArg)
}
