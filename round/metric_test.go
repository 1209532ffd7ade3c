package round_test

import (
	"slices"
	"testing"

	"lampbox/api"
	"lampbox/round"
)

// detoursOf are all i, j, k that show that the distances are not metric, in lexicographic order.
func detoursOf(miles [][]int) [][3]int {
	var all [][3]int
	for i := range miles {
		for j := range miles {
			for k := range miles {
				if miles[i][k] > miles[i][j]+miles[j][k] {
					all = append(all, [3]int{i, j, k})
				}
			}
		}
	}
	return all
}

// P8.3.
func TestMetric(t *testing.T) {
	for _, miles := range slices.Concat(someMiles(), nearlyMetric()) {
		detour, ok, err := round.Metric(miles)
		wantErr(t, miles, err, api.OK)
		want := append(detoursOf(miles), [3]int{})[0]
		if detour != want || ok != (len(detoursOf(miles)) == 0) {
			t.Fatalf("Metric(%v) = %v %t, want %v", miles, detour, ok, want)
		}
		if short, ok, _ := round.Metric(shortened(miles)); !ok || short != [3]int{} {
			t.Fatalf("Metric of the ways of %v = %v %t", miles, short, ok)
		}
	}
}

// nearlyMetric are distances with a single one that is greater, or smaller, than metric ones have it.
func nearlyMetric() [][][]int {
	var all [][][]int
	for n := 3; n <= api.MaxStops; n++ {
		for j := range n {
			for i := range j {
				for _, change := range []int{-1, 0, 1} {
					miles := line(n, 2)
					miles[i][j] += change
					miles[j][i] += change
					all = append(all, miles)
				}
			}
		}
	}
	return all
}

// P8.3: the chapter's example, and equal sums, which are metric.
func TestKnownMetric(t *testing.T) {
	for _, x := range []struct {
		miles [][]int
		want  [3]int
		ok    bool
	}{
		{bent(), [3]int{0, 1, 2}, false},
		{[][]int{{0}}, [3]int{}, true},
		{even(2, 1000), [3]int{}, true},
		{even(11, 0), [3]int{}, true},
		{line(11, 100), [3]int{}, true},
		{square(), [3]int{}, true},
		{ring(4, 3), [3]int{0, 1, 2}, false},
		{star(4, 3, 1, 3), [3]int{0, 3, 1}, false},
		{star(4, 0, 1, 3), [3]int{1, 0, 2}, false},
		{[][]int{{0, 0, 0}, {0, 0, 1}, {0, 1, 0}}, [3]int{1, 0, 2}, false},
	} {
		if detour, ok, err := round.Metric(x.miles); detour != x.want || ok != x.ok || err != api.OK {
			t.Errorf("Metric(%v) = %v %t %d, want %v %t", x.miles, detour, ok, err, x.want, x.ok)
		}
	}
}

// firstWay goes through the lists without repetitions in lexicographic order, and returns the first one with the smallest sum,
// which shortened distances have.
func firstWay(miles, rest [][]int, from, to int) ([]int, int) {
	shortest := rest[from][to]
	var found []int
	var further func(begun []int, sum int) bool
	further = func(begun []int, sum int) bool {
		last := begun[len(begun)-1]
		if last == to {
			found = slices.Clone(begun)
			return true
		}
		for stop := range miles {
			longer := sum + miles[last][stop]
			if !slices.Contains(begun, stop) && longer+rest[stop][to] == shortest && further(append(begun, stop), longer) {
				return true
			}
		}
		return false
	}
	further([]int{from}, 0)
	return found, shortest
}

// P8.3: also where distances are 0, and ways could lead back.
func TestWay(t *testing.T) {
	for _, miles := range slices.Concat(someMiles(), nearlyMetric()) {
		rest := shortened(miles)
		for from := range miles {
			for to := range miles {
				way, sum, err := round.Way(miles, from, to)
				wantErr(t, miles, err, api.OK)
				if want, shortest := firstWay(miles, rest, from, to); !slices.Equal(way, want) || sum != shortest {
					t.Fatalf("Way(%v, %d, %d) = %v %d, want %v %d", miles, from, to, way, sum, want, shortest)
				}
			}
		}
	}
}

// P8.3: the same stop, longer ways that are smaller lists, and limits.
func TestKnownWays(t *testing.T) {
	for _, x := range []struct {
		miles    [][]int
		from, to int
		want     []int
		sum      int
	}{
		{[][]int{{0}}, 0, 0, []int{0}, 0},
		{bent(), 0, 2, []int{0, 1, 2}, 2},
		{bent(), 2, 0, []int{2, 1, 0}, 2},
		{bent(), 1, 1, []int{1}, 0},
		{square(), 3, 1, []int{3, 0, 1}, 2},
		{square(), 0, 2, []int{0, 1, 2}, 2},
		{square(), 2, 0, []int{2, 0}, 2},
		{even(5, 0), 4, 2, []int{4, 0, 1, 2}, 0},
		{even(5, 0), 1, 1, []int{1}, 0},
		{even(5, 0), 0, 4, []int{0, 1, 2, 3, 4}, 0},
		{even(5, 0), 4, 0, []int{4, 0}, 0},
		{even(11, 1000), 3, 10, []int{3, 10}, 1000},
		{line(11, 100), 0, 10, []int{0, 1, 2, 3, 4, 5, 6, 7, 8, 9, 10}, 1000},
		{line(11, 100), 10, 0, []int{10, 0}, 1000},
		{ring(11, 1000), 2, 9, []int{2, 1, 0, 10, 9}, 4},
		// The stop 0 is no farther from 3 than 1 is, but only because it leads back to 1.
		{[][]int{{0, 0, 9, 9}, {0, 0, 9, 3}, {9, 9, 0, 9}, {9, 3, 9, 0}}, 1, 3, []int{1, 3}, 3},
	} {
		way, sum, err := round.Way(x.miles, x.from, x.to)
		if !slices.Equal(way, x.want) || sum != x.sum || err != api.OK {
			t.Errorf("Way(%v, %d, %d) = %v %d %d, want %v %d", x.miles, x.from, x.to, way, sum, err, x.want, x.sum)
		}
	}
}

// P8.3: numbers that are no stops.
func TestNotStops(t *testing.T) {
	for n := 1; n <= api.MaxStops; n++ {
		for _, stop := range []int{-1, n, n + 1, 11, 16, 64, 1 << 32, huge, -huge, -huge - 1} {
			for _, pair := range [][2]int{{0, stop}, {stop, 0}, {stop, stop}, {n - 1, stop}} {
				way, sum, err := round.Way(even(n, 1), pair[0], pair[1])
				if len(way) > 0 || sum != 0 || err != api.ErrArg {
					t.Errorf("Way of %d stops, %v = %v %d %d", n, pair, way, sum, err)
				}
			}
		}
	}
}
