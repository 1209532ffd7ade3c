package relay_test

import (
	"math/rand/v2"
	"slices"
	"testing"

	"lampbox/api"
	"lampbox/relay"
)

// P9.4: the time is at least the greatest number of pairs on a way, and at least the number of neighbors.
func TestTimeIsAtLeastFarAndNeighbors(t *testing.T) {
	for _, s := range someTrees() {
		for from := range s.n {
			time := timeOf(t, s, from)
			if time < slices.Max(farOf(t, s, from)) || time < len(s.neighborsOf(from)) {
				t.Fatalf("Time(%v, %d) = %d", s, from, time)
			}
		}
	}
}

// P9.4: after r rounds at most 2^r houses know the news. From 0 in a binomial tree they are just as many.
func TestNewsAtMostDouble(t *testing.T) {
	for _, s := range someTrees() {
		for from := range s.n {
			know := 1
			for r, round := range spreadOf(t, s, from) {
				know += len(round)
				if know > 1<<(r+1) {
					t.Fatalf("Spread(%v, %d): %d houses know after round %d", s, from, know, r)
				}
			}
		}
	}
	for r := range 5 {
		if time := timeOf(t, binomial(1<<r), 0); time != r {
			t.Errorf("%d houses take %d rounds", 1<<r, time)
		}
	}
}

// P9.4: the centers are connected: there are as many pairs of centers as a tree of them has.
func TestCentersAreConnected(t *testing.T) {
	for _, s := range someTrees() {
		centers, _ := centersOf(t, s)
		inside := 0
		for _, pair := range s.pairs {
			if slices.Contains(centers, pair[0]) && slices.Contains(centers, pair[1]) {
				inside++
			}
		}
		if inside != len(centers)-1 {
			t.Fatalf("Centers(%v) = %v", s, centers)
		}
	}
}

// P9.4: the time from a house is at most that from a center plus the distance.
func TestTimeFarFromCenters(t *testing.T) {
	for _, s := range someTrees() {
		centers, smallest := centersOf(t, s)
		for _, center := range centers {
			for house, far := range farOf(t, s, center) {
				if timeOf(t, s, house) > smallest+far {
					t.Fatalf("Time(%v, %d) is too long", s, house)
				}
			}
		}
	}
}

// P9.4: no fewer calls are enough. All of them are tried for up to five people.
func TestNoFewerCalls(t *testing.T) {
	for n := 1; n <= 5; n++ {
		var further func(calls [][2]int)
		further = func(calls [][2]int) {
			if relay.Enough(n, calls) == api.OK {
				t.Fatalf("%v are enough for %d people", calls, n)
			}
			if len(calls)+1 >= fewestOf(t, n) {
				return
			}
			for one := range n {
				for other := range one {
					further(slices.Concat(calls, [][2]int{{one, other}}))
				}
			}
		}
		if n > 1 {
			further(nil)
		}
	}
}

// P9.4: no call of Calls can be left out.
func TestNoCallTooMany(t *testing.T) {
	for n := 2; n <= api.MaxPeople; n++ {
		calls := callsOf(t, n)
		for i := range calls {
			wantErr(t, calls, relay.Enough(n, slices.Delete(slices.Clone(calls), i, i+1)), api.ErrAnswer)
		}
	}
}

// P9.4: calls that are enough, and only those, are enough in reverse order.
func TestReversedCalls(t *testing.T) {
	r := rand.New(rand.NewPCG(9, 5))
	for n := 2; n <= api.MaxPeople; n++ {
		all := [][][2]int{callsOf(t, n)}
		for range 100 {
			all = append(all, randomCalls(r, n, min(r.IntN(8*n), api.MaxCalls)))
		}
		for _, calls := range all {
			reversed := slices.Clone(calls)
			slices.Reverse(reversed)
			wantErr(t, reversed, relay.Enough(n, reversed), relay.Enough(n, calls))
		}
	}
}
