package round_test

import (
	"math/rand/v2"
	"reflect"
	"slices"
	"testing"

	"lampbox/api"
	"lampbox/round"
)

// results calls every function of the package, and returns all that they return.
func results(miles [][]int, tour, prices []int, steps, from, to int) ([]any, []api.Errno) {
	r1, s1, e1 := round.Best(miles)
	r2, e2 := round.Length(miles, tour)
	r3, e3 := round.Bound(miles, prices)
	r4, e4 := round.Nearest(miles)
	r5, e5 := round.Improve(miles, tour)
	r6, e6 := round.Double(miles)
	r7, s7, e7 := round.Metric(miles)
	r8, s8, e8 := round.Climb(miles, steps)
	r9, s9, e9 := round.Way(miles, from, to)
	return []any{r1, s1, r2, r3, r4, r5, r6, r7, s7, r8, s8, r9, s9}, []api.Errno{e1, e2, e3, e4, e5, e6, e7, e8, e9}
}

// notDistances are lists of lists that are no distances.
func notDistances() [][][]int {
	all := [][][]int{
		nil, {}, even(12, 1), even(16, 0), even(64, 1), make([][]int, 11), make([][]int, 12), make([][]int, 1000000),
		{nil}, {{}}, {{1}}, {{0, 0}}, {make([]int, 1000000)}, {{0, 1}}, {{0}, {0}}, {{0, 1}, {1}}, {{0}, {1, 0}}, {{0, 1}, nil}, {nil, {1, 0}},
		{{0, 1}, {2, 0}}, {{0, 1}, {0, 0}}, {{0, 0}, {1, 0}}, {{1, 1}, {1, 0}}, {{0, 1}, {1, 1}},
	}
	for n := 1; n <= api.MaxStops; n++ {
		for _, miles := range [][][]int{even(n, 1), even(n, 1000), line(n, 100)} {
			for i := range n {
				shorter, longer := copied(miles), copied(miles)
				shorter[i] = shorter[i][1:]
				longer[i] = append(longer[i], 0)
				all = append(all, shorter, longer, append(copied(miles), make([]int, n)))
				if n > 1 {
					all = append(all, slices.Delete(copied(miles), i, i+1))
				}
				all = append(all, changed(miles, i)...)
			}
		}
	}
	return all
}

// changed has one wrong distance at a stop: out of range, on one side only, or to itself.
func changed(miles [][]int, i int) [][][]int {
	var all [][][]int
	for j := range miles {
		for _, distance := range []int{-1, 1001, 1002, 1 << 32, 1<<32 + 1, huge, -huge, -huge - 1} {
			other := copied(miles)
			other[i][j], other[j][i] = distance, distance
			all = append(all, other)
		}
		one := copied(miles)
		one[i][j] = 1000 - one[i][j]/2 - 7
		all = append(all, one)
	}
	return all
}

// P8.1 to P8.4: what is not distances is an error of every function, whatever the other arguments are.
func TestNotDistances(t *testing.T) {
	for i, miles := range notDistances() {
		for _, list := range [][]int{nil, {0}, {0, 1}, {-1}, make([]int, len(miles)%20)} {
			for _, k := range []int{0, -1} {
				rs, errs := results(miles, list, list, k, k, 0)
				wantZero(t, i, rs, errs)
			}
		}
	}
}

// wantZero fails if not all errors are ErrArg, or one comes with a result.
func wantZero(t *testing.T, what any, rs []any, errs []api.Errno) {
	t.Helper()
	for i, err := range errs {
		if err != api.ErrArg {
			t.Fatalf("%v: function %d: error %d", what, i, err)
		}
	}
	for i, r := range rs {
		if v := reflect.ValueOf(r); v.Kind() == reflect.Slice && v.Len() > 0 || v.Kind() != reflect.Slice && !v.IsZero() {
			t.Fatalf("%v: result %d is %v with an error", what, i, r)
		}
	}
}

// The limits themselves are allowed: eleven stops, distances from 0 to 1000, prices from -10000 to 10000, 100 steps.
func TestLimits(t *testing.T) {
	for n := 1; n <= api.MaxStops; n++ {
		for _, distance := range []int{0, 1, 999, 1000} {
			for _, price := range []int{-10000, 0, 10000} {
				tour := randomTour(rand.New(rand.NewPCG(8, 9)), n)
				_, errs := results(even(n, distance), tour, slices.Repeat([]int{price}, n), 100, 0, n-1)
				for i, err := range errs {
					if err != api.OK {
						t.Errorf("%d stops at the distance %d: function %d: error %d", n, distance, i, err)
					}
				}
			}
		}
	}
}

// scratch writes over a result, also in the room behind its end.
func scratch(result any) {
	if list, ok := result.([]int); ok {
		for i := range list[:cap(list)] {
			list[:cap(list)][i] = -7
		}
	}
}

// P2, rule 5: a second call returns the same; arguments stay as they are; results are new memory.
func TestCallsLeaveNothingBehind(t *testing.T) {
	r := rand.New(rand.NewPCG(8, 10))
	for _, miles := range slices.Concat(knownMiles(), randomMilesOfAll(2)) {
		n := len(miles)
		tour, prices := randomTour(r, n), randomPrices(r, n, 100)
		milesBefore, tourBefore, pricesBefore := copied(miles), slices.Clone(tour), slices.Clone(prices)
		all := func() []any {
			rs, errs := results(miles, tour, prices, n, n/2, n/3)
			return append(rs, errs)
		}
		first, kept := all(), all()
		if !reflect.DeepEqual(first, kept) {
			t.Fatalf("two calls differ: %v, %v", first, kept)
		}
		for _, result := range first {
			scratch(result)
		}
		if again := all(); !reflect.DeepEqual(again, kept) {
			t.Fatalf("results share memory: %v, %v", again, kept)
		}
		if !reflect.DeepEqual(miles, milesBefore) || !slices.Equal(tour, tourBefore) || !slices.Equal(prices, pricesBefore) {
			t.Fatalf("an argument has changed: %v, %v, %v", milesBefore, tourBefore, pricesBefore)
		}
	}
}

// Rule 5: a tour that Improve does not change is returned as new memory, too.
func TestImproveReturnsNewMemory(t *testing.T) {
	tour := []int{0, 1, 2, 3}
	scratch(improve(t, square(), tour))
	if !slices.Equal(tour, []int{0, 1, 2, 3}) {
		t.Errorf("Improve shares memory with its argument: %v", tour)
	}
}

// Rule 5: the room behind the end of an argument's lists is left alone.
func TestRoomBehindArguments(t *testing.T) {
	row, other := []int{0, 4, 91, 92}, []int{4, 0, 93, 94}
	miles := [][]int{row[:2], other[:2], {95}}
	tour, prices := []int{0, 1, 96, 97}, []int{1, 2, 98, 99}
	results(miles[:2], tour[:2], prices[:2], 5, 0, 1)
	if !slices.Equal(row, []int{0, 4, 91, 92}) || !slices.Equal(other, []int{4, 0, 93, 94}) || miles[2][0] != 95 ||
		!slices.Equal(tour, []int{0, 1, 96, 97}) || !slices.Equal(prices, []int{1, 2, 98, 99}) {
		t.Errorf("written behind an argument: %v %v %v %v %v", row, other, miles, tour, prices)
	}
}
