package relay_test

import (
	"math/rand/v2"
	"slices"
	"testing"

	"lampbox/api"
	"lampbox/relay"
)

// knownAfter holds the terms: for each person the ascending list of those whose things it knows.
func knownAfter(n int, calls [][2]int) [][]int {
	knows := make([]map[int]bool, n)
	for person := range knows {
		knows[person] = map[int]bool{person: true}
	}
	for _, call := range calls {
		one, other := knows[call[0]], knows[call[1]]
		for thing := range n {
			if one[thing] || other[thing] {
				one[thing], other[thing] = true, true
			}
		}
	}
	lists := make([][]int, n)
	for person := range lists {
		for thing := range n {
			if knows[person][thing] {
				lists[person] = append(lists[person], thing)
			}
		}
	}
	return lists
}

func areEnough(n int, calls [][2]int) bool {
	for _, list := range knownAfter(n, calls) {
		if len(list) < n {
			return false
		}
	}
	return true
}

func randomCalls(r *rand.Rand, n, many int) [][2]int {
	var calls [][2]int
	for range many {
		one, other := r.IntN(n), r.IntN(n-1)
		if other >= one {
			other++
		}
		calls = append(calls, [2]int{one, other})
	}
	return calls
}

// P9.2: the numbers of calls.
func TestFewest(t *testing.T) {
	for i, want := range []int{0, 1, 3, 4, 6, 8, 10, 12, 14, 16, 18, 20, 22, 24, 26, 28, 30, 32, 34, 36} {
		if got := fewestOf(t, i+1); got != want {
			t.Errorf("Fewest(%d) = %d, want %d", i+1, got, want)
		}
	}
}

// P9.2, P3: the calls are as many as that, among different people, and enough.
func TestCalls(t *testing.T) {
	for n := 1; n <= api.MaxPeople; n++ {
		calls := callsOf(t, n)
		for _, call := range calls {
			if call[0] == call[1] || min(call[0], call[1]) < 0 || max(call[0], call[1]) >= n {
				t.Fatalf("Calls(%d) = %v", n, calls)
			}
		}
		if len(calls) != fewestOf(t, n) || !areEnough(n, calls) {
			t.Fatalf("Calls(%d) = %v", n, calls)
		}
		wantErr(t, calls, relay.Enough(n, calls), api.OK)
	}
}

// wantKnown compares Known and Enough with the terms.
func wantKnown(t *testing.T, n int, calls [][2]int) {
	t.Helper()
	want := knownAfter(n, calls)
	got, err := relay.Known(n, calls)
	if err != api.OK || !slices.EqualFunc(got, want, slices.Equal) {
		t.Fatalf("Known(%d, %v) = %v %d, want %v", n, calls, got, err, want)
	}
	answer := api.ErrAnswer
	if areEnough(n, calls) {
		answer = api.OK
	}
	wantErr(t, calls, relay.Enough(n, calls), answer)
}

// P9.2: the chapter's example, its beginnings, and calls that tell someone's thing on, or too late to do so.
func TestKnownCalls(t *testing.T) {
	example := [][2]int{{0, 1}, {2, 3}, {0, 2}, {1, 3}}
	wantErr(t, example, relay.Enough(4, example), api.OK)
	for _, x := range []struct {
		n     int
		calls [][2]int
		want  [][]int
	}{
		{1, nil, [][]int{{0}}},
		{1, [][2]int{}, [][]int{{0}}},
		{2, nil, [][]int{{0}, {1}}},
		{2, [][2]int{{1, 0}}, [][]int{{0, 1}, {0, 1}}},
		{3, [][2]int{{0, 1}, {1, 2}}, [][]int{{0, 1}, {0, 1, 2}, {0, 1, 2}}},
		{3, [][2]int{{1, 2}, {0, 1}}, [][]int{{0, 1, 2}, {0, 1, 2}, {1, 2}}},
		{4, example[:2], [][]int{{0, 1}, {0, 1}, {2, 3}, {2, 3}}},
		{4, example[:3], [][]int{{0, 1, 2, 3}, {0, 1}, {0, 1, 2, 3}, {2, 3}}},
		{4, example, [][]int{{0, 1, 2, 3}, {0, 1, 2, 3}, {0, 1, 2, 3}, {0, 1, 2, 3}}},
		{4, [][2]int{{3, 0}, {3, 0}, {0, 3}}, [][]int{{0, 3}, {1}, {2}, {0, 3}}},
	} {
		got, err := relay.Known(x.n, x.calls)
		if err != api.OK || !slices.EqualFunc(got, x.want, slices.Equal) {
			t.Errorf("Known(%d, %v) = %v %d, want %v", x.n, x.calls, got, err, x.want)
		}
		wantKnown(t, x.n, x.calls)
	}
}

// P9.2, P3: random calls of all numbers of people, few ones and many.
func TestRandomCalls(t *testing.T) {
	r := rand.New(rand.NewPCG(9, 4))
	for n := 1; n <= api.MaxPeople; n++ {
		wantKnown(t, n, nil)
		for range 60 {
			if n > 1 {
				wantKnown(t, n, randomCalls(r, n, r.IntN(4*n)))
				wantKnown(t, n, randomCalls(r, n, r.IntN(api.MaxCalls+1)))
			}
		}
	}
}

// P9.2: calls with one missing person, and those of Calls with one call changed.
func TestNearlyEnough(t *testing.T) {
	for n := 2; n <= api.MaxPeople; n++ {
		calls := callsOf(t, n)
		wantKnown(t, n, callsOf(t, n-1))
		for i, call := range calls {
			wantKnown(t, n, slices.Delete(slices.Clone(calls), i, i+1))
			wantKnown(t, n, slices.Insert(slices.Clone(calls), i, call))
			for person := range n {
				if person != call[0] {
					other := slices.Clone(calls)
					other[i][1] = person
					wantKnown(t, n, other)
				}
			}
			if i > 0 {
				other := slices.Clone(calls)
				other[i], other[i-1] = other[i-1], other[i]
				wantKnown(t, n, other)
			}
		}
	}
}

// P9.3: the rounds of few people.
func TestKnownRounds(t *testing.T) {
	for n, want := range map[int][][][2]int{
		2: {{{0, 1}}},
		4: {{{0, 3}, {1, 2}}, {{0, 2}, {1, 3}}, {{0, 1}, {2, 3}}},
		6: {{{0, 5}, {1, 4}, {2, 3}}, {{0, 2}, {1, 5}, {3, 4}}, {{0, 4}, {1, 3}, {2, 5}}, {{0, 1}, {2, 4}, {3, 5}}, {{0, 3}, {1, 2}, {4, 5}}},
	} {
		got, err := relay.Rounds(n)
		if err != api.OK || !slices.EqualFunc(got, want, slices.Equal) {
			t.Errorf("Rounds(%d) = %v %d, want %v", n, got, err, want)
		}
	}
}

// P9.3: the pairs are those of the rule, the smaller person first, in ascending order.
func TestRoundsByTheirRule(t *testing.T) {
	for n := 2; n <= api.MaxPeople; n += 2 {
		rounds, err := relay.Rounds(n)
		if err != api.OK || len(rounds) != n-1 {
			t.Fatalf("Rounds(%d) = %v %d", n, rounds, err)
		}
		for r, round := range rounds {
			var want [][2]int
			for one := range n {
				for other := one + 1; other < n; other++ {
					if other == n-1 && one == r || other < n-1 && (one+other-2*r)%(n-1) == 0 {
						want = append(want, [2]int{one, other})
					}
				}
			}
			if !slices.Equal(round, want) {
				t.Fatalf("Rounds(%d), round %d = %v, want %v", n, r, round, want)
			}
		}
	}
}

// P9.3: everyone occurs once in each round, and every two people are a pair exactly once.
func TestEveryTwoMeetOnce(t *testing.T) {
	for n := 2; n <= api.MaxPeople; n += 2 {
		rounds, err := relay.Rounds(n)
		wantErr(t, n, err, api.OK)
		met := map[[2]int]bool{}
		for _, round := range rounds {
			occurs := map[int]bool{}
			for _, pair := range round {
				occurs[pair[0]], occurs[pair[1]] = true, true
				met[pair] = true
			}
			if len(round) != n/2 || len(occurs) != n {
				t.Fatalf("Rounds(%d): round %v", n, round)
			}
		}
		if len(met) != n*(n-1)/2 {
			t.Fatalf("Rounds(%d): %d pairs", n, len(met))
		}
	}
}
