package bags_test

import (
	"slices"
	"testing"

	"lampbox/api"
	"lampbox/bags"
)

// densestByTrial visits all sets, and returns the greatest density and the union of all sets that have it.
func densestByTrial(s sample) ([]int, api.Frac) {
	best, union := api.Frac{Num: -1, Den: 1}, 0
	for set := 1; set < 1<<s.n; set++ {
		f := valid(s.inside(set), len(listOf(set)))
		if compare(f, best) > 0 {
			best, union = f, 0
		}
		if f == best {
			union |= set
		}
	}
	return listOf(union), best
}

// isProof is written as the terms are, to be held against Check.
func isProof(s sample, share [][2]int, f api.Frac) bool {
	if len(share) != len(s.edges) {
		return false
	}
	load := make([]int, s.n)
	for i, e := range s.edges {
		a, b := share[i][0], share[i][1]
		if a < 0 || a > f.Den || b < 0 || b > f.Den || a+b != f.Den {
			return false
		}
		load[e.A] += a
		load[e.B] += b
	}
	return slices.Max(load) <= f.Num
}

// P1.1, P1.4 (no set is denser), P3.
func TestDensest(t *testing.T) {
	for _, s := range allGraphs() {
		set, f, share, err := bags.Densest(s.n, s.edges)
		wantSet, want := densestByTrial(s)
		if err != api.OK || f != want || !slices.Equal(set, wantSet) {
			t.Fatalf("Densest(%v) = %v %v %d, want %v %v", s, set, f, err, wantSet, want)
		}
		if !isProof(s, share, f) {
			t.Fatalf("Densest(%v): %v does not prove %v", s, share, f)
		}
		wantErr(t, "Check of Densest", bags.Check(s.n, s.edges, set, share), api.OK)
	}
}

// P1.1: the examples of the chapter, and graphs whose densities are known.
func TestDensestOfKnownGraphs(t *testing.T) {
	triangleAndTail := sample{4, []api.Edge{{A: 0, B: 1}, {A: 0, B: 2}, {A: 1, B: 2}, {A: 2, B: 3}}}
	for _, x := range []struct {
		s       sample
		set     []int
		density api.Frac
	}{
		{triangleAndTail, []int{0, 1, 2, 3}, api.Frac{Num: 1, Den: 1}},
		{complete(4), []int{0, 1, 2, 3}, api.Frac{Num: 3, Den: 2}},
		{sample{n: 3}, []int{0, 1, 2}, api.Frac{Num: 0, Den: 1}},
		{sample{n: 1}, []int{0}, api.Frac{Num: 0, Den: 1}},
		{complete(16), complete(16).everybody(), api.Frac{Num: 15, Den: 2}},
		{petersen(), petersen().everybody(), api.Frac{Num: 3, Den: 2}},
		{beside(ring(3), complete(5)), []int{3, 4, 5, 6, 7}, api.Frac{Num: 2, Den: 1}},
		{beside(beside(complete(4), sample{n: 2}), complete(4)), []int{0, 1, 2, 3, 6, 7, 8, 9}, api.Frac{Num: 3, Den: 2}},
		{beside(sample{n: 2}, ring(3)), []int{2, 3, 4}, api.Frac{Num: 1, Den: 1}},
	} {
		set, f, share, err := bags.Densest(x.s.n, x.s.edges)
		if err != api.OK || f != x.density || !slices.Equal(set, x.set) || !isProof(x.s, share, f) {
			t.Errorf("Densest(%v) = %v %v %v %d, want %v %v", x.s, set, f, share, err, x.set, x.density)
		}
	}
}

// P1.1: Check takes every share that proves the density of the set, and no other one.
func TestCheckOfAllShares(t *testing.T) {
	s := ring(3)
	values := []int{-1, 0, 1, 2, 3}
	for _, set := range [][]int{{0}, {1, 2}, {0, 1, 2}} {
		f := valid(s.inside(bitsOf(set)), len(set))
		for code := range 5 * 5 * 5 * 5 * 5 * 5 {
			share := make([][2]int, 3)
			for i := range 6 {
				share[i/2][i%2] = values[code%5]
				code /= 5
			}
			want := api.ErrAnswer
			if isProof(s, share, f) {
				want = api.OK
			}
			if got := bags.Check(s.n, s.edges, set, share); got != want {
				t.Fatalf("Check(%v, %v) = %d, want %d", set, share, got, want)
			}
		}
	}
}

// P1.1: a share with which only one thing is wrong.
func TestCheckOfWrongShares(t *testing.T) {
	huge := 1<<63 - 1
	s := sample{4, []api.Edge{{A: 0, B: 1}, {A: 0, B: 2}, {A: 1, B: 2}, {A: 2, B: 3}}}
	set := []int{0, 1, 2, 3}
	right := [][2]int{{0, 1}, {1, 0}, {0, 1}, {0, 1}}
	wantErr(t, "right share", bags.Check(s.n, s.edges, set, right), api.OK)
	wantErr(t, "right share, smaller set", bags.Check(s.n, s.edges, set[:3], right), api.OK)
	for name, share := range map[string][][2]int{
		"none":                 nil,
		"too short":            {{0, 1}, {1, 0}, {0, 1}},
		"too long":             {{0, 1}, {1, 0}, {0, 1}, {0, 1}, {0, 0}},
		"load too great":       {{0, 1}, {0, 1}, {0, 1}, {0, 1}},
		"nothing given out":    {{0, 0}, {1, 0}, {0, 1}, {0, 1}},
		"too much given out":   {{0, 1}, {1, 0}, {0, 1}, {1, 1}},
		"negative":             {{0, 1}, {2, -1}, {0, 1}, {0, 1}},
		"sum wraps around":     {{0, 1}, {1, 0}, {0, 1}, {-huge - 1, -huge}},
		"difference too great": {{0, 1}, {1, 0}, {0, 1}, {huge, 1 - huge}},
		"fraction not reduced": {{0, 4}, {4, 0}, {0, 4}, {0, 4}},
	} {
		wantErr(t, name, bags.Check(s.n, s.edges, set, share), api.ErrAnswer)
	}
}

// P1.1: no share proves the density of a set that is not a densest one.
func TestCheckOfThinSet(t *testing.T) {
	s := beside(ring(3), complete(5))
	_, _, share, _ := bags.Densest(s.n, s.edges)
	wantErr(t, "thin set", bags.Check(s.n, s.edges, []int{0, 1, 2}, share), api.ErrAnswer)
	wantErr(t, "half of the densest set", bags.Check(s.n, s.edges, []int{3, 4, 5}, share), api.ErrAnswer)
}

// P1.1: without edges every set has a proof.
func TestCheckWithoutEdges(t *testing.T) {
	wantErr(t, "one vertex of three", bags.Check(3, nil, []int{1}, nil), api.OK)
	wantErr(t, "all", bags.Check(3, nil, []int{0, 1, 2}, [][2]int{}), api.OK)
	wantErr(t, "share too long", bags.Check(3, nil, []int{0, 1, 2}, [][2]int{{0, 1}}), api.ErrAnswer)
}

func notSets(n int) [][]int {
	huge := 1<<63 - 1
	return [][]int{
		nil, {}, {-1}, {n}, {0, n}, {-1, 0}, {1, 0}, {0, 0}, {0, 1, 1}, {0, 2, 1}, {huge}, {-huge - 1}, {-huge - 1, huge},
		make([]int, 100000),
	}
}

// P1.1.
func TestNotSets(t *testing.T) {
	for _, s := range []sample{{n: 3}, complete(3), complete(16)} {
		_, _, share, _ := bags.Densest(s.n, s.edges)
		for _, set := range notSets(s.n) {
			wantErr(t, "Check", bags.Check(s.n, s.edges, set, share), api.ErrAnswer)
			f, err := bags.Density(s.n, s.edges, set)
			wantErr(t, "Density", err, api.ErrArg)
			if f != (api.Frac{}) {
				t.Errorf("Density(%v) = %v with an error", set, f)
			}
		}
	}
}

// P1.1.
func TestDensity(t *testing.T) {
	for _, s := range append(smallGraphs(), petersen(), complete(9)) {
		for set := 1; set < 1<<s.n; set++ {
			list := listOf(set)
			f, err := bags.Density(s.n, s.edges, list)
			if want := valid(s.inside(set), len(list)); f != want || err != api.OK {
				t.Fatalf("Density(%v, %v) = %v %d, want %v", s, list, f, err, want)
			}
		}
	}
}
