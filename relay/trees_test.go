package relay_test

import (
	"math/rand/v2"
	"slices"
	"testing"

	"lampbox/api"
	"lampbox/relay"
)

// P9.1: the chapter's examples, one house, and trees whose times are known.
func TestKnownTimes(t *testing.T) {
	for _, x := range []struct {
		s       sample
		times   []int
		centers []int
	}{
		{path(1), []int{0}, []int{0}},
		{path(2), []int{1, 1}, []int{0, 1}},
		{path(3), []int{2, 2, 2}, []int{0, 1, 2}},
		{path(4), []int{3, 2, 2, 3}, []int{1, 2}},
		{path(5), []int{4, 3, 3, 3, 4}, []int{1, 2, 3}},
		{path(6), []int{5, 4, 3, 3, 4, 5}, []int{2, 3}},
		{star(4), []int{3, 3, 3, 3}, []int{0, 1, 2, 3}},
		{star(6), []int{5, 5, 5, 5, 5, 5}, []int{0, 1, 2, 3, 4, 5}},
		{binomial(4), []int{2, 3, 2, 3}, []int{0, 2}},
		{binomial(8), []int{3, 4, 4, 5, 3, 4, 4, 5}, []int{0, 4}},
		{broom(6, 3), []int{5, 4, 4, 4, 4, 4}, []int{1, 2, 3, 4, 5}},
		{spider(7, 3), []int{4, 4, 4, 4, 5, 5, 5}, []int{0, 1, 2, 3}},
	} {
		for from, want := range x.times {
			if got := timeOf(t, x.s, from); got != want || timeByRounds(x.s, from) != want {
				t.Errorf("Time(%v, %d) = %d, want %d", x.s, from, got, want)
			}
		}
		centers, time := centersOf(t, x.s)
		if !slices.Equal(centers, x.centers) || time != slices.Min(x.times) {
			t.Errorf("Centers(%v) = %v %d, want %v", x.s, centers, time, x.centers)
		}
	}
}

// P9.1: known times of the greatest trees.
func TestTimesOfThirtyHouses(t *testing.T) {
	for _, x := range []struct {
		s          sample
		from, want int
	}{
		{path(30), 0, 29}, {path(30), 29, 29}, {path(30), 14, 15}, {path(30), 15, 15}, {path(30), 13, 16},
		{star(30), 0, 29}, {star(30), 1, 29}, {star(30), 29, 29}, {broom(30, 15), 14, 16}, {broom(30, 15), 0, 29},
	} {
		if got := timeOf(t, x.s, x.from); got != x.want {
			t.Errorf("Time(%v, %d) = %d, want %d", x.s, x.from, got, x.want)
		}
	}
}

// P9.1: the time of trees with few houses, found by trying all rounds.
func TestTimesByRounds(t *testing.T) {
	r := rand.New(rand.NewPCG(9, 3))
	trees := fewHouses(6)
	for range 60 {
		trees = append(trees, randomSample(r, 7+r.IntN(3), 1+r.IntN(8)).renamed(r))
	}
	for _, s := range trees {
		for from := range s.n {
			want := timeByRounds(s, from)
			if got := timeOf(t, s, from); got != want || timeBySlots(s, from, from) != want {
				t.Fatalf("Time(%v, %d) = %d, want %d", s, from, got, want)
			}
		}
	}
}

// P9.1, P3: spreads have as many rounds as the smallest time, and Check takes them.
func TestSpread(t *testing.T) {
	for _, s := range someTrees() {
		for from := range s.n {
			want := timeBySlots(s, from, from)
			rounds := spreadOf(t, s, from)
			if timeOf(t, s, from) != want || len(rounds) != want || !isSpread(s, from, rounds) {
				t.Fatalf("Spread(%v, %d) = %v, want %d rounds", s, from, rounds, want)
			}
			wantErr(t, rounds, relay.Check(s.n, s.pairs, from, rounds), api.OK)
		}
	}
}

// P9.1: all houses with the smallest time are centers, in ascending order.
func TestCenters(t *testing.T) {
	for _, s := range someTrees() {
		var times, want []int
		for from := range s.n {
			times = append(times, timeBySlots(s, from, from))
		}
		for from, time := range times {
			if time == slices.Min(times) {
				want = append(want, from)
			}
		}
		if got, time := centersOf(t, s); !slices.Equal(got, want) || time != slices.Min(times) {
			t.Fatalf("Centers(%v) = %v %d, want %v", s, got, time, want)
		}
	}
}

// P9.1: the numbers of pairs on the ways.
func TestFar(t *testing.T) {
	for _, s := range someTrees() {
		for from, want := range waysOf(s) {
			if got := farOf(t, s, from); !slices.Equal(got, want) {
				t.Fatalf("Far(%v, %d) = %v, want %v", s, from, got, want)
			}
		}
	}
	if got := farOf(t, path(1), 0); !slices.Equal(got, []int{0}) {
		t.Errorf("Far from the only house: %v", got)
	}
	if got := farOf(t, path(4), 1); !slices.Equal(got, []int{1, 0, 1, 2}) {
		t.Errorf("Far on a path: %v", got)
	}
}

// wantChecked compares Check with the terms.
func wantChecked(t *testing.T, s sample, from int, rounds [][][2]int) {
	t.Helper()
	want := api.ErrAnswer
	if isSpread(s, from, rounds) {
		want = api.OK
	}
	if got := relay.Check(s.n, s.pairs, from, rounds); got != want {
		t.Fatalf("Check(%v, %d, %v) = %d, want %d", s, from, rounds, got, want)
	}
}

// roundsOf are all lists of at most two pairs of numbers from first to last.
func roundsOf(first, last int) [][][2]int {
	var pairs [][2]int
	for one := first; one <= last; one++ {
		for other := first; other <= last; other++ {
			pairs = append(pairs, [2]int{one, other})
		}
	}
	all := [][][2]int{nil, {}}
	for _, pair := range pairs {
		all = append(all, [][2]int{pair})
		for _, other := range pairs {
			all = append(all, [][2]int{pair, other})
		}
	}
	return all
}

// P9.1, P3: all short rounds in trees with few houses.
func TestCheckShortRounds(t *testing.T) {
	for _, s := range fewHouses(4) {
		for from := range s.n {
			wantChecked(t, s, from, nil)
			for _, round := range roundsOf(-1, s.n) {
				wantChecked(t, s, from, [][][2]int{round})
			}
			if s.n > 3 {
				continue
			}
			rounds := roundsOf(0, s.n-1)
			for _, one := range rounds {
				for _, other := range rounds {
					wantChecked(t, s, from, [][][2]int{one, other})
				}
			}
		}
	}
}

// P9.1, P3: spreads that are changed at one place, with all other kinds of wrong rounds among them.
func TestCheckChangedSpreads(t *testing.T) {
	for _, s := range slices.Concat(fewHouses(4), randomTrees(1)) {
		for from := 0; from < s.n; from += 1 + s.n/4 {
			rounds := spreadOf(t, s, from)
			for _, other := range changedRounds(s, rounds) {
				wantChecked(t, s, from, other)
			}
			wantChecked(t, s, (from+1)%s.n, rounds)
			wantChecked(t, s, from, rounds[:max(len(rounds)-1, 0)])
		}
	}
}

func changedRounds(s sample, rounds [][][2]int) [][][][2]int {
	var all [][][][2]int
	for i, round := range rounds {
		all = append(all, slices.Insert(copiedRounds(rounds), i, nil), slices.Delete(copiedRounds(rounds), i, i+1))
		all = append(all, slices.Concat(rounds, rounds[i:i+1]))
		if i > 0 {
			swapped := copiedRounds(rounds)
			swapped[i], swapped[i-1] = swapped[i-1], swapped[i]
			joined := slices.Delete(copiedRounds(rounds), i, i+1)
			joined[i-1] = append(joined[i-1], round...)
			all = append(all, swapped, joined)
		}
		for j, pair := range round {
			all = append(all, changedPairs(s, rounds, i, j, pair)...)
		}
	}
	return all
}

func changedPairs(s sample, rounds [][][2]int, i, j int, pair [2]int) [][][][2]int {
	var all [][][][2]int
	add := func(change func(other [][][2]int)) {
		other := copiedRounds(rounds)
		change(other)
		all = append(all, other)
	}
	add(func(other [][][2]int) { other[i] = slices.Delete(other[i], j, j+1) })
	add(func(other [][][2]int) { other[i] = append(other[i], pair) })
	add(func(other [][][2]int) { other[i][j] = [2]int{pair[1], pair[0]} })
	for k := range rounds {
		add(func(other [][][2]int) {
			other[i] = slices.Delete(other[i], j, j+1)
			other[k] = append(other[k], pair)
		})
	}
	for _, house := range []int{-1, 0, s.n / 2, s.n - 1, s.n, 30, 31, 32, 64, pair[0] + 32, pair[1] + 64, pair[1] + 1<<32, huge, -huge - 1} {
		add(func(other [][][2]int) { other[i][j][0] = house })
		add(func(other [][][2]int) { other[i][j][1] = house })
	}
	return all
}

// P9.1: a spread may be slower than it needs to be.
func TestCheckSlowSpreads(t *testing.T) {
	for _, s := range someTrees() {
		from := s.n / 2
		var slow [][][2]int
		for _, round := range spreadOf(t, s, from) {
			for _, pair := range round {
				slow = append(slow, nil, [][2]int{pair}, [][2]int{})
			}
		}
		wantErr(t, slow, relay.Check(s.n, s.pairs, from, slow), api.OK)
	}
}

// P9.1: in the round in which a house is called it cannot call; no house calls or is called twice.
func TestCheckNamedMistakes(t *testing.T) {
	for _, x := range []struct {
		s      sample
		rounds [][][2]int
		want   api.Errno
	}{
		{path(3), [][][2]int{{{0, 1}}, {{1, 2}}}, api.OK},
		{path(3), [][][2]int{{{0, 1}, {1, 2}}}, api.ErrAnswer},
		{path(3), [][][2]int{{{1, 2}}, {{0, 1}}}, api.ErrAnswer},
		{path(3), [][][2]int{{{0, 1}}, {{0, 2}}}, api.ErrAnswer},
		{path(3), [][][2]int{{{1, 0}}, {{1, 2}}}, api.ErrAnswer},
		{path(3), [][][2]int{{{0, 1}}}, api.ErrAnswer},
		{path(3), [][][2]int{{{0, 1}}, {{1, 2}}, {{1, 0}}}, api.ErrAnswer},
		{path(3), [][][2]int{{{0, 1}}, {{1, 2}}, {{0, 1}}}, api.ErrAnswer},
		{path(3), [][][2]int{{{0, 1}}, {{1, 2}}, {}, nil}, api.OK},
		{star(3), [][][2]int{{{0, 1}, {0, 2}}}, api.ErrAnswer},
		{star(3), [][][2]int{{{0, 1}, {0, 1}}, {{0, 2}}}, api.ErrAnswer},
		{star(3), [][][2]int{{{0, 2}}, {{0, 1}}}, api.OK},
		{path(1), nil, api.OK},
		{path(1), [][][2]int{{}}, api.OK},
		{path(1), [][][2]int{{{0, 0}}}, api.ErrAnswer},
		{path(2), nil, api.ErrAnswer},
		{path(2), [][][2]int{{{0, 1}}}, api.OK},
	} {
		wantErr(t, x.rounds, relay.Check(x.s.n, x.s.pairs, 0, x.rounds), x.want)
	}
}

// P1: rounds of any length.
func TestCheckLongRounds(t *testing.T) {
	s := path(30)
	spread := spreadOf(t, s, 0)
	long := slices.Concat(make([][][2]int, 1000000), spread, make([][][2]int, 1000000))
	wantErr(t, "long", relay.Check(s.n, s.pairs, 0, long), api.OK)
	wantErr(t, "long", relay.Check(s.n, s.pairs, 0, long[:1000000+len(spread)-1]), api.ErrAnswer)
	wantErr(t, "long", relay.Check(s.n, s.pairs, 0, [][][2]int{make([][2]int, 1000000)}), api.ErrAnswer)
	wantErr(t, "long", relay.Check(s.n, s.pairs, 0, [][][2]int{slices.Repeat([][2]int{{0, 1}}, 1000000)}), api.ErrAnswer)
}
