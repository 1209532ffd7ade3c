package streets_test

import (
	"slices"
	"testing"

	"lampbox/api"
	"lampbox/streets"
)

// P2.3, P2.5.
func TestSecond(t *testing.T) {
	for _, s := range testedNets() {
		second, err := streets.Second(s.n, s.streets)
		first := sorted(s.taken())
		others := slices.DeleteFunc(s.trees(), func(tree []int) bool { return slices.Equal(tree, first) })
		if len(others) == 0 {
			if err != api.ErrNone || second != 0 {
				t.Fatalf("Second(%v) = %d %d, but there is none", s, second, err)
			}
			continue
		}
		if want := s.weight(s.smallest(others)[0]); err != api.OK || second != want {
			t.Fatalf("Second(%v) = %d %d, want %d", s, second, err, want)
		}
	}
}

// P2.3.
func TestSecondOfKnownNets(t *testing.T) {
	for _, x := range []struct {
		s    sample
		want int
		err  api.Errno
	}{
		{square(), 7, api.OK},
		{sample{n: 1}, 0, api.ErrNone},
		{path(2, 1, 5), 0, api.ErrNone},
		{path(16, 1, 5), 0, api.ErrNone},
		{path(2, 2, 5), 5, api.OK},
		{ring(16, 1000), 15000, api.OK},
		{ring(3, 0), 0, api.OK},
		{sample{2, []api.Street{street(1, 0, 1000), street(0, 1, 0)}}, 1000, api.OK},
		{beside(ring(3, 4), path(2, 1, 7), true), 515, api.OK},
	} {
		if second, err := streets.Second(x.s.n, x.s.streets); second != x.want || err != x.err {
			t.Errorf("Second(%v) = %d %d, want %d %d", x.s, second, err, x.want, x.err)
		}
	}
}

// P2.3: the second tree lacks some street of the first one.
func TestSecondOfGreatNets(t *testing.T) {
	for _, s := range greatNets() {
		tree, _, err := streets.Tree(s.n, s.streets)
		if err != api.OK {
			continue
		}
		want := -1
		for _, i := range tree {
			_, weight, err := streets.Tree(s.n, slices.Delete(slices.Clone(s.streets), i, i+1))
			if err == api.OK && (want < 0 || weight < want) {
				want = weight
			}
		}
		second, err := streets.Second(s.n, s.streets)
		if want < 0 {
			wantErr(t, "Second", err, api.ErrNone)
		} else if second != want || err != api.OK {
			t.Fatalf("Second(%v) = %d %d, want %d", s, second, err, want)
		}
	}
}

// P2.3.
func TestCount(t *testing.T) {
	for _, s := range testedNets() {
		count, err := streets.Count(s.n, s.streets)
		if want := len(s.smallest(s.trees())); count != want || err != api.OK {
			t.Fatalf("Count(%v) = %d %d, want %d", s, count, err, want)
		}
	}
}

func power(base, exponent int) int {
	product := 1
	for range exponent {
		product *= base
	}
	return product
}

// P2.3: nets whose numbers of trees are known, up to the greatest ones.
func TestCountOfKnownNets(t *testing.T) {
	twoWeights := path(16, 2, 1)
	twoWeights.streets = append(twoWeights.streets, path(16, 2, 2).streets...)
	lightRings := beside(beside(ring(5, 3), ring(7, 2), true), ring(4, 3), true)
	heavyRings := sample{6, slices.Concat(path(6, 1, 0).streets[:2], ring(6, 5).streets, complete(6, 1000).streets)}
	for _, x := range []struct {
		s    sample
		want int
	}{
		{square(), 1}, {ring(3, 1), 3}, {ring(16, 1000), 16}, {sample{n: 1}, 1}, {sample{n: 2}, 0}, {sample{n: 16}, 0},
		{path(2, 1, 0), 1}, {path(2, 60, 0), 60}, {path(16, 4, 1), power(4, 15)}, {path(5, 15, 1), power(15, 4)},
		{complete(4, 0), 16}, {complete(5, 1), 125}, {complete(11, 1), power(11, 9)}, {petersen(), 2000},
		{bipartite(6, 10, 1), power(6, 9) * power(10, 5)}, {bipartite(4, 12, 0), power(4, 11) * power(12, 3)},
		{bipartite(5, 11, 9), power(5, 10) * power(11, 4)}, {twoWeights, power(2, 15)}, {lightRings, 5 * 7 * 4}, {heavyRings, 4},
	} {
		if count, err := streets.Count(x.s.n, x.s.streets); count != x.want || err != api.OK {
			t.Errorf("Count(%v) = %d %d, want %d", x.s, count, err, x.want)
		}
	}
}

// P2.5: Second is at least the weight of the first tree, and equal to it exactly if Count is greater than 1.
func TestSecondAndCount(t *testing.T) {
	for _, s := range append(testedNets(), greatNets()...) {
		_, weight, err := streets.Tree(s.n, s.streets)
		if err != api.OK {
			continue
		}
		count, _ := streets.Count(s.n, s.streets)
		second, err := streets.Second(s.n, s.streets)
		if err == api.OK && second < weight || (err == api.OK && second == weight) != (count > 1) {
			t.Fatalf("%v: weight %d, Second %d %d, Count %d", s, weight, second, err, count)
		}
	}
}
