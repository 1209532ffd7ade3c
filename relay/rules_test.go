package relay_test

import (
	"math/rand/v2"
	"reflect"
	"slices"
	"testing"

	"lampbox/api"
	"lampbox/relay"
)

// treeResults calls every function that receives a tree and a house, and returns all that they return.
func treeResults(n int, pairs [][2]int, from int, rounds [][][2]int) ([]any, []api.Errno) {
	r1, e1 := relay.Time(n, pairs, from)
	r2, e2 := relay.Spread(n, pairs, from)
	e3 := relay.Check(n, pairs, from, rounds)
	r4, e4 := relay.Far(n, pairs, from)
	return []any{r1, r2, r4}, []api.Errno{e1, e2, e3, e4}
}

func callResults(n int, calls [][2]int) ([]any, []api.Errno) {
	r1, e1 := relay.Known(n, calls)
	e2 := relay.Enough(n, calls)
	return []any{r1}, []api.Errno{e1, e2}
}

// wantZero fails if not all errors are ErrArg, or one comes with a result.
func wantZero(t *testing.T, what any, rs []any, errs []api.Errno) {
	t.Helper()
	for i, err := range errs {
		if err != api.ErrArg {
			t.Fatalf("%v: function %d: error %d", what, i, err)
		}
	}
	for i, r := range rs {
		if v := reflect.ValueOf(r); v.Kind() == reflect.Slice && v.Len() > 0 || v.Kind() != reflect.Slice && !v.IsZero() {
			t.Fatalf("%v: result %d is %v with an error", what, i, r)
		}
	}
}

func wantNoTree(t *testing.T, s sample) {
	t.Helper()
	for _, from := range []int{0, -1, s.n} {
		for _, rounds := range [][][][2]int{nil, {{{0, 1}}}, {{{-1, 5}}}} {
			rs, errs := treeResults(s.n, s.pairs, from, rounds)
			wantZero(t, s.n, rs, errs)
		}
	}
	houses, time, err := relay.Centers(s.n, s.pairs)
	wantZero(t, s.n, []any{houses, time}, []api.Errno{err})
}

// P9.1: all lists of at most two pairs of few houses are a tree, or an error of every function.
func TestAllPairs(t *testing.T) {
	for n := range 4 {
		for _, pairs := range roundsOf(-1, n) {
			s := sample{n, pairs}
			if !s.isTree() {
				wantNoTree(t, s)
				continue
			}
			_, errs := treeResults(n, pairs, 0, spreadOf(t, s, 0))
			if !slices.Equal(errs, make([]api.Errno, 4)) {
				t.Fatalf("%v: errors %v", s, errs)
			}
			centersOf(t, s)
		}
	}
}

// P9.1: three pairs of four houses are a tree exactly if they connect all.
func TestThreePairsOfFourHouses(t *testing.T) {
	trees := 0
	for code := range 1 << 12 {
		s := sample{n: 4}
		for i := range 3 {
			s.pairs = append(s.pairs, [2]int{code >> (4 * i) & 3, code >> (4*i + 2) & 3})
		}
		if s.isTree() {
			centersOf(t, s)
			trees++
		} else {
			wantNoTree(t, s)
		}
	}
	// 16 trees, with the pairs in each order and either way round.
	if trees != 16*6*8 {
		t.Errorf("%d trees", trees)
	}
}

// P9.1: trees with a wrong house, a ring, a repeated pair, a pair more or less, or another number of houses.
func TestChangedTrees(t *testing.T) {
	for _, s := range slices.Concat(fewHouses(4), randomTrees(1)) {
		wantNoTree(t, sample{s.n - 1, s.pairs})
		wantNoTree(t, sample{s.n + 1, s.pairs})
		wantNoTree(t, sample{s.n, append(slices.Clone(s.pairs), [2]int{0, s.n - 1})})
		for i, pair := range s.pairs {
			wantNoTree(t, sample{s.n, slices.Delete(slices.Clone(s.pairs), i, i+1)})
			for _, other := range [][2]int{{-1, pair[1]}, {pair[0], -1}, {s.n, pair[1]}, {pair[0], s.n}, {pair[0], pair[0]},
				{pair[0] + 32, pair[1]}, {pair[0], pair[1] + 64}, {pair[0] + 1<<32, pair[1]}, {huge, pair[1]}, {pair[0], -huge - 1}} {
				changed := slices.Clone(s.pairs)
				changed[i] = other
				wantNoTree(t, sample{s.n, changed})
			}
			if s.n > 2 {
				next := s.pairs[(i+1)%len(s.pairs)]
				for _, again := range [][2]int{next, {next[1], next[0]}} {
					changed := slices.Clone(s.pairs)
					changed[i] = again
					wantNoTree(t, sample{s.n, changed})
				}
			}
		}
	}
}

// P9.1: numbers of houses out of range, and lists of any length.
func TestWrongNumbersOfHouses(t *testing.T) {
	for _, n := range []int{0, -1, -2, -30, huge, -huge - 1, 1 << 32, 1<<32 + 1, 64} {
		wantNoTree(t, sample{n, nil})
		wantNoTree(t, sample{n, [][2]int{{0, 1}}})
	}
	wantNoTree(t, path(31))
	wantNoTree(t, star(32))
	wantNoTree(t, path(33))
	wantNoTree(t, star(64))
	wantNoTree(t, path(1000000))
	for n := 1; n <= api.MaxHouses; n++ {
		wantNoTree(t, sample{n, make([][2]int, 1000000)})
		if n > 1 {
			wantNoTree(t, sample{n, nil})
			wantNoTree(t, sample{n, make([][2]int, n-1)})
			wantNoTree(t, sample{n, slices.Repeat([][2]int{{0, n}}, n-1)})
		}
	}
	// A ring, and a house alone.
	for n := 4; n <= api.MaxHouses; n++ {
		wantNoTree(t, sample{n, append(path(n-1).pairs, [2]int{n - 2, 0})})
	}
}

// P9.1: what is not a house is an error, also if the rounds are not a spread.
func TestWrongHouse(t *testing.T) {
	for _, s := range namedTrees() {
		for _, from := range []int{-1, -2, s.n, s.n + 1, 30, 31, 32, 64, 1 << 32, huge, -huge - 1} {
			if from == 30 && s.n > 30 {
				continue
			}
			for _, rounds := range [][][][2]int{nil, {{{0, 1}}}, spreadOf(t, s, 0)} {
				rs, errs := treeResults(s.n, s.pairs, from, rounds)
				wantZero(t, from, rs, errs)
			}
		}
	}
}

// P9.2, P9.3: numbers of people out of range.
func TestWrongNumbersOfPeople(t *testing.T) {
	for _, n := range []int{0, -1, -2, -20, 21, 22, 32, 64, 1 << 32, 1<<32 + 4, huge, huge - 1, -huge - 1} {
		r1, e1 := relay.Fewest(n)
		r2, e2 := relay.Calls(n)
		r3, e3 := relay.Rounds(n)
		wantZero(t, n, []any{r1, r2, r3}, []api.Errno{e1, e2, e3})
		for _, calls := range [][][2]int{nil, {}, {{0, 1}}, {{-1, 0}}} {
			rs, errs := callResults(n, calls)
			wantZero(t, n, rs, errs)
		}
	}
	for n := 1; n <= 21; n += 2 {
		rounds, err := relay.Rounds(n)
		wantZero(t, n, []any{rounds}, []api.Errno{err})
	}
}

// P9.2: calls of someone with itself, or with nobody, at any place, and too many calls.
func TestNotCalls(t *testing.T) {
	for n := 1; n <= api.MaxPeople; n++ {
		calls := callsOf(t, n)
		for i := range len(calls) + 1 {
			for _, wrong := range [][2]int{{0, 0}, {n - 1, n - 1}, {-1, 0}, {0, -1}, {n, 0}, {0, n}, {0, 32}, {64, 0}, {0, 1<<32 + 1}, {huge, 0}, {0, -huge - 1}, {-1, -1}, {-1, n}} {
				rs, errs := callResults(n, slices.Insert(slices.Clone(calls), i, wrong))
				wantZero(t, wrong, rs, errs)
			}
		}
	}
	for _, many := range []int{201, 202, 256, 1000, 10000000} {
		rs, errs := callResults(20, slices.Repeat([][2]int{{3, 4}}, many))
		wantZero(t, many, rs, errs)
	}
	enough := slices.Concat(callsOf(t, 20), slices.Repeat([][2]int{{3, 4}}, 164))
	wantErr(t, "200 calls", relay.Enough(20, enough), api.OK)
	wantErr(t, "201 calls", relay.Enough(20, append(enough, [2]int{0, 1})), api.ErrArg)
}

// scratch writes over a result, also in the room behind its end, and behind those of its lists.
func scratch(result any) {
	switch list := result.(type) {
	case []int:
		list = list[:cap(list)]
		for i := range list {
			list[i] = -7
		}
	case [][2]int:
		list = list[:cap(list)]
		for i := range list {
			list[i] = [2]int{-7, -7}
		}
	case [][]int:
		for _, inner := range list {
			scratch(inner)
		}
	case [][][2]int:
		for _, inner := range list {
			scratch(inner)
		}
	}
}

// P2, rule 5: a second call returns the same; arguments stay as they are; results are new memory.
func TestCallsLeaveNothingBehind(t *testing.T) {
	r := rand.New(rand.NewPCG(9, 6))
	for _, s := range slices.Concat(fewHouses(4), namedTrees()) {
		n := 2 + r.IntN(19)
		from, rounds, calls := s.n/2, spreadOf(t, s, 0), randomCalls(r, n, r.IntN(60))
		pairsBefore, roundsBefore, callsBefore := slices.Clone(s.pairs), copiedRounds(rounds), slices.Clone(calls)
		all := func() []any {
			rs, errs := treeResults(s.n, s.pairs, from, rounds)
			more, others := callResults(n, calls)
			houses, time, _ := relay.Centers(s.n, s.pairs)
			few, _ := relay.Calls(n)
			meetings, _ := relay.Rounds(n)
			return slices.Concat(rs, more, []any{errs, others, houses, time, few, meetings})
		}
		first, kept := all(), all()
		if !reflect.DeepEqual(first, kept) {
			t.Fatalf("two calls differ: %v, %v", first, kept)
		}
		for _, result := range first {
			scratch(result)
		}
		if again := all(); !reflect.DeepEqual(again, kept) {
			t.Fatalf("results share memory: %v, %v", again, kept)
		}
		if !slices.Equal(s.pairs, pairsBefore) || !reflect.DeepEqual(rounds, roundsBefore) || !slices.Equal(calls, callsBefore) {
			t.Fatalf("an argument has changed: %v, %v, %v", pairsBefore, roundsBefore, callsBefore)
		}
	}
}

// Rule 5: the lists of one result share no memory, not even the room behind their ends.
func TestListsOfOneResult(t *testing.T) {
	known, err := relay.Known(20, callsOf(t, 20))
	wantErr(t, known, err, api.OK)
	rounds, err := relay.Rounds(20)
	wantErr(t, rounds, err, api.OK)
	spread := spreadOf(t, heap(30, 2), 0)
	for i := range known {
		kept := slices.Clone(known)
		for j := range kept {
			kept[j] = slices.Clone(known[j])
		}
		scratch(known[i])
		kept[i] = known[i]
		if !reflect.DeepEqual(known, kept) {
			t.Fatalf("lists of Known share memory: %v", known)
		}
	}
	for _, lists := range [][][][2]int{rounds, spread} {
		for i := range lists {
			kept := copiedRounds(lists)
			scratch(lists[i])
			kept[i] = lists[i]
			if !reflect.DeepEqual(lists, kept) {
				t.Fatalf("rounds share memory: %v", lists)
			}
		}
	}
}

// Rule 5: the room behind the end of an argument's lists is left alone.
func TestRoomBehindArguments(t *testing.T) {
	pairs, calls := [][2]int{{0, 1}, {1, 2}, {91, 92}}, [][2]int{{0, 1}, {93, 94}}
	round := [][2]int{{0, 1}, {95, 96}}
	rounds := [][][2]int{round[:1], {{1, 2}}, {{97, 98}}}
	treeResults(3, pairs[:2], 0, rounds[:2])
	centersOf(t, sample{3, pairs[:2]})
	callResults(3, calls[:1])
	if !reflect.DeepEqual(pairs, [][2]int{{0, 1}, {1, 2}, {91, 92}}) || !reflect.DeepEqual(calls, [][2]int{{0, 1}, {93, 94}}) ||
		!reflect.DeepEqual(round, [][2]int{{0, 1}, {95, 96}}) || !reflect.DeepEqual(rounds[2], [][2]int{{97, 98}}) {
		t.Errorf("written behind an argument: %v %v %v %v", pairs, calls, round, rounds)
	}
}
