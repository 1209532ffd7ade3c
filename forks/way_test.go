package forks_test

import (
	"slices"
	"testing"

	"lampbox/api"
	"lampbox/forks"
)

// wantWay fails if what Way returns is not a way with this number of turns.
func wantWay(t *testing.T, a, b string, many int) {
	t.Helper()
	way, err := forks.Way(a, b)
	if err != api.OK || len(way) != many+1 || way[0] != a || way[many] != b {
		t.Fatalf("Way(%s, %s) = %v %d, want %d turns", a, b, way, err, many)
	}
	for i, tree := range way[1:] {
		if before := way[i]; !slices.Contains(turns(before, true), tree) && !slices.Contains(turns(before, false), tree) {
			t.Fatalf("Way(%s, %s): no turn leads from %s to %s", a, b, before, tree)
		}
	}
}

// P3.4, P3.
func TestWay(t *testing.T) {
	for n := range 6 {
		for _, a := range allTrees(n) {
			for b, many := range distances(a, false) {
				wantWay(t, a, b, many)
			}
		}
	}
}

// P3.4: the greatest distances of trees with so many forks are known.
func TestWayOfGreatTrees(t *testing.T) {
	for n, want := range map[int]int{6: 7, 7: 9} {
		greatest := 0
		trees := allTrees(n)
		for i, a := range trees {
			away := distances(a, false)
			if len(away) != numberOfTrees[n] {
				t.Fatalf("%s: %d trees can be reached", a, len(away))
			}
			for k, b := range trees {
				greatest = max(greatest, away[b])
				if (i+k)%41 == 0 || away[b] == want {
					wantWay(t, a, b, away[b])
				}
			}
		}
		if greatest != want {
			t.Errorf("%d forks: the greatest distance is %d", n, greatest)
		}
	}
}

// P3.4.
func TestWayOfKnownTrees(t *testing.T) {
	wantWay(t, ".", ".", 0)
	wantWay(t, "(..)", "(..)", 0)
	wantWay(t, "((..).)", "(.(..))", 1)
	wantWay(t, "(.(..))", "((..).)", 1)
	wantWay(t, "(((..).).)", "(.(.(..)))", 2)
	wantWay(t, "((.(..)).)", "((..)(..))", 2)
	wantWay(t, leftChain(7), rightChain(7), 6)
	wantWay(t, rightChain(7), rightChain(7), 0)
}

// P3.4: with more than MaxWay forks no way is searched; trees of different size are named before.
func TestWayOfTooManyForks(t *testing.T) {
	for n := api.MaxWay + 1; n <= api.MaxForks; n++ {
		for _, b := range []string{leftChain(n), rightChain(n)} {
			if way, err := forks.Way(leftChain(n), b); len(way) > 0 || err != api.ErrFull {
				t.Errorf("Way of %d forks = %v %d", n, way, err)
			}
		}
		for _, m := range []int{0, 7, n - 1} {
			_, err := forks.Way(leftChain(n), leftChain(m))
			wantErr(t, "Way of two sizes", err, api.ErrArg)
		}
		_, err := forks.Way(leftChain(n), leftChain(11))
		wantErr(t, "Way of no tree", err, api.ErrSyntax)
	}
}
