package relay_test

import (
	"math/rand/v2"
	"slices"
	"testing"

	"lampbox/api"
	"lampbox/relay"
)

const huge = 1<<63 - 1

// sample is a tree of n houses.
type sample struct {
	n     int
	pairs [][2]int
}

// grown is the tree in which each house but 0 has a pair with a smaller one.
func grown(n int, below func(house int) int) sample {
	s := sample{n: n}
	for house := 1; house < n; house++ {
		s.pairs = append(s.pairs, [2]int{below(house), house})
	}
	return s
}

func path(n int) sample {
	return grown(n, func(house int) int { return house - 1 })
}

func star(n int) sample {
	return grown(n, func(int) int { return 0 })
}

// broom is a path whose last house has all further ones as neighbors.
func broom(n, long int) sample {
	return grown(n, func(house int) int { return min(house, long) - 1 })
}

// spider has so many legs at 0, about equally long ones.
func spider(n, legs int) sample {
	return grown(n, func(house int) int { return max(house-legs, 0) })
}

// heap gives each house the same number of branches.
func heap(n, width int) sample {
	return grown(n, func(house int) int { return (house - 1) / width })
}

// binomial is the tree in which the news from 0 can reach twice as many houses with each round.
func binomial(n int) sample {
	return grown(n, func(house int) int { return house & (house - 1) })
}

func randomSample(r *rand.Rand, n, near int) sample {
	return grown(n, func(house int) int { return max(0, house-near) + r.IntN(min(house, near)) })
}

// renamed has other numbers for the houses, the pairs in another order, and their houses either way round.
func (s sample) renamed(r *rand.Rand) sample {
	names := r.Perm(s.n)
	other := sample{n: s.n}
	for _, pair := range s.pairs {
		one := [2]int{names[pair[0]], names[pair[1]]}
		if r.IntN(2) == 0 {
			one[0], one[1] = one[1], one[0]
		}
		other.pairs = append(other.pairs, one)
	}
	r.Shuffle(len(other.pairs), func(i, j int) { other.pairs[i], other.pairs[j] = other.pairs[j], other.pairs[i] })
	return other
}

// allTrees are all trees of n houses, built from their Pruefer codes.
func allTrees(n int) []sample {
	if n == 1 {
		return []sample{{n: 1}}
	}
	codes := [][]int{{}}
	for range n - 2 {
		var longer [][]int
		for _, code := range codes {
			for house := range n {
				longer = append(longer, slices.Concat(code, []int{house}))
			}
		}
		codes = longer
	}
	var all []sample
	for _, code := range codes {
		all = append(all, fromCode(n, code))
	}
	return all
}

func fromCode(n int, code []int) sample {
	s := sample{n: n}
	gone := make([]bool, n)
	for i, house := range code {
		leaf := 0
		for gone[leaf] || slices.Contains(code[i:], leaf) {
			leaf++
		}
		gone[leaf] = true
		s.pairs = append(s.pairs, [2]int{leaf, house})
	}
	one := slices.Index(gone, false)
	other := one + 1 + slices.Index(gone[one+1:], false)
	s.pairs = append(s.pairs, [2]int{one, other})
	return s
}

func fewHouses(most int) []sample {
	var all []sample
	for n := 1; n <= most; n++ {
		all = append(all, allTrees(n)...)
	}
	return all
}

// namedTrees are trees of all numbers of houses, also with other names.
func namedTrees() []sample {
	r := rand.New(rand.NewPCG(9, 1))
	var all []sample
	for n := 1; n <= api.MaxHouses; n++ {
		all = append(all, path(n), star(n), binomial(n), heap(n, 2), heap(n, 3), heap(n, 5), spider(n, 2), spider(n, 3), spider(n, 6))
		for long := 1; long < n; long += 3 {
			all = append(all, broom(n, long))
		}
	}
	for _, s := range slices.Clone(all) {
		all = append(all, s.renamed(r))
	}
	return all
}

// randomTrees are trees of all numbers of houses, high ones and broad ones.
func randomTrees(times int) []sample {
	r := rand.New(rand.NewPCG(9, 2))
	var all []sample
	for n := 1; n <= api.MaxHouses; n++ {
		for range times {
			for _, near := range []int{1, 2, 3, 5, 10, 30} {
				all = append(all, randomSample(r, n, near).renamed(r))
			}
		}
	}
	return all
}

func someTrees() []sample {
	return slices.Concat(fewHouses(5), namedTrees(), randomTrees(3))
}

func (s sample) neighborsOf(house int) []int {
	var list []int
	for _, pair := range s.pairs {
		if pair[0] == house {
			list = append(list, pair[1])
		}
		if pair[1] == house {
			list = append(list, pair[0])
		}
	}
	return list
}

// isTree holds the terms.
func (s sample) isTree() bool {
	if s.n < 1 || s.n > api.MaxHouses || len(s.pairs) != s.n-1 {
		return false
	}
	part := make([]int, s.n)
	for house := range part {
		part[house] = house
	}
	for _, pair := range s.pairs {
		one, other := pair[0], pair[1]
		if one < 0 || one >= s.n || other < 0 || other >= s.n || one == other {
			return false
		}
		from, to := part[one], part[other]
		for house := range part {
			if part[house] == from {
				part[house] = to
			}
		}
	}
	return slices.Min(part) == slices.Max(part)
}

// waysOf are the numbers of pairs between every two houses.
func waysOf(s sample) [][]int {
	ways := make([][]int, s.n)
	for house := range ways {
		ways[house] = slices.Repeat([]int{s.n}, s.n)
		ways[house][house] = 0
	}
	for _, pair := range s.pairs {
		ways[pair[0]][pair[1]], ways[pair[1]][pair[0]] = 1, 1
	}
	for k := range s.n {
		for i := range s.n {
			for j := range s.n {
				ways[i][j] = min(ways[i][j], ways[i][k]+ways[k][j])
			}
		}
	}
	return ways
}

// timeByRounds tries all rounds, until all houses know the news. The knowing houses are bits.
func timeByRounds(s sample, from int) int {
	states := map[int]bool{1 << from: true}
	for time := 0; ; time++ {
		if states[1<<s.n-1] {
			return time
		}
		next := map[int]bool{}
		for state := range states {
			s.afterRound(state, state, 0, next)
		}
		states = next
	}
}

// afterRound adds what the houses may know after a round in which the callers from house on have not called yet.
func (s sample) afterRound(before, after, house int, all map[int]bool) {
	if house == s.n {
		all[after] = true
		return
	}
	s.afterRound(before, after, house+1, all)
	if before>>house&1 == 0 {
		return
	}
	for _, other := range s.neighborsOf(house) {
		if after>>other&1 == 0 {
			s.afterRound(before, after|1<<other, house+1, all)
		}
	}
}

// timeBySlots finds the smallest time in which each branch is called early enough: for each round r, no more than r branches
// have to be called in the first r rounds.
func timeBySlots(s sample, house, before int) int {
	var times []int
	for _, next := range s.neighborsOf(house) {
		if next != before {
			times = append(times, timeBySlots(s, next, house))
		}
	}
	for time := len(times); ; time++ {
		if inTime(times, time) {
			return time
		}
	}
}

func inTime(times []int, time int) bool {
	for round := range time + 1 {
		urgent := 0
		for _, t := range times {
			if time-t <= round {
				urgent++
			}
		}
		if urgent > round {
			return false
		}
	}
	return len(times) == 0 || slices.Max(times) < time
}

// isSpread holds the terms.
func isSpread(s sample, from int, rounds [][][2]int) bool {
	knows := map[int]bool{from: true}
	for _, round := range rounds {
		occurs := map[int]bool{}
		for _, pair := range round {
			caller, called := pair[0], pair[1]
			if !slices.Contains(s.pairs, [2]int{caller, called}) && !slices.Contains(s.pairs, [2]int{called, caller}) {
				return false
			}
			if !knows[caller] || knows[called] || occurs[caller] || occurs[called] {
				return false
			}
			occurs[caller], occurs[called] = true, true
		}
		for _, pair := range round {
			knows[pair[1]] = true
		}
	}
	return len(knows) == s.n
}

func copiedRounds(rounds [][][2]int) [][][2]int {
	other := make([][][2]int, len(rounds))
	for i := range rounds {
		other[i] = slices.Clone(rounds[i])
	}
	return other
}

func wantErr(t *testing.T, what any, got, want api.Errno) {
	t.Helper()
	if got != want {
		t.Fatalf("%v: error %d, want %d", what, got, want)
	}
}

func timeOf(t *testing.T, s sample, from int) int {
	t.Helper()
	time, err := relay.Time(s.n, s.pairs, from)
	wantErr(t, s, err, api.OK)
	return time
}

func spreadOf(t *testing.T, s sample, from int) [][][2]int {
	t.Helper()
	rounds, err := relay.Spread(s.n, s.pairs, from)
	wantErr(t, s, err, api.OK)
	return rounds
}

func centersOf(t *testing.T, s sample) ([]int, int) {
	t.Helper()
	houses, time, err := relay.Centers(s.n, s.pairs)
	wantErr(t, s, err, api.OK)
	return houses, time
}

func farOf(t *testing.T, s sample, from int) []int {
	t.Helper()
	far, err := relay.Far(s.n, s.pairs, from)
	wantErr(t, s, err, api.OK)
	return far
}

func fewestOf(t *testing.T, n int) int {
	t.Helper()
	fewest, err := relay.Fewest(n)
	wantErr(t, n, err, api.OK)
	return fewest
}

func callsOf(t *testing.T, n int) [][2]int {
	t.Helper()
	calls, err := relay.Calls(n)
	wantErr(t, n, err, api.OK)
	return calls
}
