package round_test

import (
	"math/rand/v2"
	"slices"
	"testing"

	"lampbox/api"
	"lampbox/round"
)

// firstShortest goes through the tours in lexicographic order, and leaves those that are not shorter than the best one so far.
func firstShortest(miles [][]int) ([]int, int) {
	n := len(miles)
	shortest, found := huge, []int(nil)
	least := huge
	for i := range n {
		for j := range i {
			least = min(least, miles[i][j])
		}
	}
	var further func(begun []int, length int)
	further = func(begun []int, length int) {
		last := begun[len(begun)-1]
		if len(begun) == n {
			if length+miles[last][0] < shortest {
				shortest, found = length+miles[last][0], slices.Clone(begun)
			}
			return
		}
		if shortest < huge && length+least*(n+1-len(begun)) >= shortest {
			return
		}
		for stop := 1; stop < n; stop++ {
			if !slices.Contains(begun, stop) {
				further(append(begun, stop), length+miles[last][stop])
			}
		}
	}
	further([]int{0}, 0)
	return found, shortest
}

// P8.1, P4: the first one of the shortest tours.
func TestBest(t *testing.T) {
	for _, miles := range slices.Concat(smallMiles(), knownMiles(), randomMilesOfAll(2)) {
		tour, length := best(t, miles)
		if want, shortest := firstShortest(miles); !slices.Equal(tour, want) || length != shortest {
			t.Fatalf("Best(%v) = %v %d, want %v %d", miles, tour, length, want, shortest)
		}
	}
}

// P8.1: the chapter's examples, few stops, and the limits.
func TestKnownTours(t *testing.T) {
	all := firstTour(11)
	for _, x := range []struct {
		miles  [][]int
		tour   []int
		length int
	}{
		{square(), []int{0, 1, 2, 3}, 4},
		{[][]int{{0}}, []int{0}, 0},
		{bent(), []int{0, 1, 2}, 7},
		{even(2, 0), []int{0, 1}, 0},
		{even(2, 1000), []int{0, 1}, 2000},
		{even(3, 5), []int{0, 1, 2}, 15},
		{even(11, 1000), all, 11000},
		{even(11, 0), all, 0},
		{ring(11, 1000), all, 11},
		{line(11, 100), all, 2000},
		{line(3, 1), []int{0, 1, 2}, 4},
		{star(11, 10, 1, 1000), all, 9002},
		{milesOf(4, func(i, j int) int { return [...]int{3, 1, 1, 1, 1, 3}[i+j*(j-1)/2] }), []int{0, 2, 1, 3}, 4},
	} {
		tour, length := best(t, x.miles)
		if !slices.Equal(tour, x.tour) || length != x.length {
			t.Errorf("Best(%v) = %v %d, want %v %d", x.miles, tour, length, x.tour, x.length)
		}
	}
}

// P8.1: the sum goes round, also for two stops and for one.
func TestLength(t *testing.T) {
	r := rand.New(rand.NewPCG(8, 2))
	for _, miles := range someMiles() {
		tour := randomTour(r, len(miles))
		if got, want := length(t, miles, tour), lengthOf(miles, tour); got != want {
			t.Fatalf("Length(%v, %v) = %d, want %d", miles, tour, got, want)
		}
	}
	for _, x := range []struct {
		miles [][]int
		tour  []int
		want  int
	}{
		{[][]int{{0}}, []int{0}, 0}, {even(2, 7), []int{0, 1}, 14}, {bent(), []int{0, 1, 2}, 7}, {bent(), []int{0, 2, 1}, 7},
		{square(), []int{0, 1, 2, 3}, 4}, {square(), []int{0, 2, 1, 3}, 6}, {even(11, 1000), []int{0, 10, 9, 8, 7, 6, 5, 4, 3, 2, 1}, 11000},
	} {
		if got := length(t, x.miles, x.tour); got != x.want {
			t.Errorf("Length(%v, %v) = %d, want %d", x.miles, x.tour, got, x.want)
		}
	}
}

// notTours are lists that are no tours of n stops.
func notTours(n int) [][]int {
	tour := firstTour(n)
	all := [][]int{nil, {}, tour[:n-1], append(slices.Clone(tour), n), append(slices.Clone(tour), 0), make([]int, n+1), make([]int, 1000000)}
	for i := range tour {
		for _, stop := range []int{-1, n, n + 1, 16, 64, 256, 1 << 32, huge, -huge, -huge - 1, tour[(i+1)%n]} {
			if stop == tour[i] {
				continue
			}
			other := slices.Clone(tour)
			other[i] = stop
			all = append(all, other)
		}
	}
	for shift := 1; shift < n; shift++ {
		all = append(all, slices.Concat(tour[shift:], tour[:shift]))
	}
	return all
}

// P8.1, P8.2: lists that are no tours are an error of Length and of Improve.
func TestNotTours(t *testing.T) {
	for n := 1; n <= api.MaxStops; n++ {
		for _, miles := range [][][]int{even(n, 1), line(n, 100)} {
			for _, list := range notTours(n) {
				if l, err := round.Length(miles, list); l != 0 || err != api.ErrArg {
					t.Fatalf("Length of %d stops, %v = %d %d", n, list, l, err)
				}
				if tour, err := round.Improve(miles, list); len(tour) > 0 || err != api.ErrArg {
					t.Fatalf("Improve of %d stops, %v = %v %d", n, list, tour, err)
				}
			}
		}
	}
}

// boundByTerms takes the smallest one of all spanning trees of the stops other than 0, and of all two edges at 0.
func boundByTerms(miles [][]int, prices []int) int {
	n := len(miles)
	if n < 3 {
		return lengthOf(miles, firstTour(n))
	}
	var edges []edge
	for j := 2; j < n; j++ {
		for i := 1; i < j; i++ {
			edges = append(edges, edgeOf(miles, prices, i, j))
		}
	}
	smallest := huge
	for some := range 1 << len(edges) {
		if cost, ok := costOfTree(edges, some, n); ok {
			smallest = min(smallest, cost)
		}
	}
	two := huge
	for i := 2; i < n; i++ {
		for j := 1; j < i; j++ {
			two = min(two, edgeOf(miles, prices, 0, i).cost+edgeOf(miles, prices, 0, j).cost)
		}
	}
	for _, price := range prices {
		smallest -= 2 * price
	}
	return smallest + two
}

// costOfTree adds the costs of some edges, and reports whether they are a spanning tree of the stops from 1 to n - 1.
func costOfTree(edges []edge, some, n int) (int, bool) {
	reached := 1 << 1
	cost, many := 0, 0
	for i, e := range edges {
		if some>>i&1 == 1 {
			cost += e.cost
			many++
		}
	}
	for range n {
		for i, e := range edges {
			if ends := 1<<e.smaller | 1<<e.greater; some>>i&1 == 1 && reached&ends != 0 {
				reached |= ends
			}
		}
	}
	return cost, many == n-2 && reached == 1<<n-2
}

// boundByGrowing is the same for more stops.
func boundByGrowing(miles [][]int, prices []int) int {
	if len(miles) < 3 {
		return lengthOf(miles, firstTour(len(miles)))
	}
	sum := 0
	for _, e := range treeFrom(miles, prices, 1) {
		sum += e.cost
	}
	var atZero []int
	for stop := 1; stop < len(miles); stop++ {
		atZero = append(atZero, edgeOf(miles, prices, 0, stop).cost)
	}
	slices.Sort(atZero)
	for _, price := range prices {
		sum -= 2 * price
	}
	return sum + atZero[0] + atZero[1]
}

// P8.1: bounds of prices 0, of small ones, and of great ones.
func TestBound(t *testing.T) {
	r := rand.New(rand.NewPCG(8, 3))
	for _, miles := range someMiles() {
		n := len(miles)
		for _, most := range []int{0, 1, 5, 1000, api.MaxPrice} {
			prices := randomPrices(r, n, most)
			got := bound(t, miles, prices)
			if want := boundByGrowing(miles, prices); got != want {
				t.Fatalf("Bound(%v, %v) = %d, want %d", miles, prices, got, want)
			}
			if n > 5 {
				continue
			}
			if want := boundByTerms(miles, prices); got != want {
				t.Fatalf("Bound(%v, %v) = %d, want %d", miles, prices, got, want)
			}
		}
	}
}

// P8.1: the chapter's example, few stops, and prices at the limits.
func TestKnownBounds(t *testing.T) {
	top, low := slices.Repeat([]int{10000}, 11), slices.Repeat([]int{-10000}, 11)
	for _, x := range []struct {
		miles  [][]int
		prices []int
		want   int
	}{
		{square(), []int{0, 0, 0, 0}, 4},
		{[][]int{{0}}, []int{0}, 0},
		{[][]int{{0}}, []int{10000}, 0},
		{[][]int{{0}}, []int{-10000}, 0},
		{even(2, 7), []int{0, 0}, 14},
		{even(2, 7), []int{10000, -9}, 14},
		{bent(), []int{0, 0, 0}, 7},
		{bent(), []int{1, 2, 3}, 7},
		{even(11, 1000), top, 11000},
		{even(11, 1000), low, 11000},
		{star(4, 3, 1, 5), []int{0, 0, 0, 0}, 8},
		{star(4, 3, 1, 5), []int{0, 0, 0, 1}, 9},
		{star(4, 3, 1, 5), []int{-10000, 10000, 10000, 10000}, 8},
		{star(4, 0, 1, 5), []int{0, 0, 0, 0}, 12},
		{line(4, 1), []int{0, 0, 0, 0}, 5},
		{line(4, 1), []int{0, -1, 0, 0}, 5},
		{line(4, 1), []int{0, -5, 0, 0}, 1},
	} {
		if got := bound(t, x.miles, x.prices); got != x.want {
			t.Errorf("Bound(%v, %v) = %d, want %d", x.miles, x.prices, got, x.want)
		}
	}
}

// P8.1: what is not a list of n prices.
func TestNotPrices(t *testing.T) {
	for n := 1; n <= api.MaxStops; n++ {
		all := [][]int{nil, {}, make([]int, n-1), make([]int, n+1), make([]int, 1000000)}
		for i := range n {
			for _, price := range []int{10001, -10001, 1 << 32, huge, -huge, -huge - 1} {
				prices := make([]int, n)
				prices[i] = price
				all = append(all, prices)
			}
		}
		for _, prices := range all {
			if b, err := round.Bound(even(n, 9), prices); b != 0 || err != api.ErrArg {
				t.Fatalf("Bound of %d stops, %v = %d %d", n, prices, b, err)
			}
		}
	}
}
