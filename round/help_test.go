package round_test

import (
	"math/rand/v2"
	"slices"
	"testing"

	"lampbox/api"
	"lampbox/round"
)

const huge = 1<<63 - 1

// milesOf builds distances of n stops from the distance of each two.
func milesOf(n int, distance func(i, j int) int) [][]int {
	miles := make([][]int, n)
	for i := range miles {
		miles[i] = make([]int, n)
	}
	for j := range n {
		for i := range j {
			miles[i][j] = distance(i, j)
			miles[j][i] = miles[i][j]
		}
	}
	return miles
}

func even(n, distance int) [][]int {
	return milesOf(n, func(int, int) int { return distance })
}

// line has its stops side by side, at equal distances.
func line(n, step int) [][]int {
	return milesOf(n, func(i, j int) int { return step * (j - i) })
}

// ring has distance 1 between neighbors on a ring, and a greater one between others.
func ring(n, other int) [][]int {
	return milesOf(n, func(i, j int) int {
		if j-i == 1 || j-i == n-1 {
			return 1
		}
		return other
	})
}

// star has one stop that is near to all others.
func star(n, center, near, far int) [][]int {
	return milesOf(n, func(i, j int) int {
		if i == center || j == center {
			return near
		}
		return far
	})
}

// square is the chapter's first example, and bent its third one.
func square() [][]int {
	return ring(4, 2)
}

func bent() [][]int {
	return [][]int{{0, 1, 5}, {1, 0, 1}, {5, 1, 0}}
}

func randomMiles(r *rand.Rand, n, most int) [][]int {
	return milesOf(n, func(int, int) int { return r.IntN(most + 1) })
}

// gridMiles are the distances of random places, which are metric.
func gridMiles(r *rand.Rand, n, size int) [][]int {
	x, y := make([]int, n), make([]int, n)
	for i := range n {
		x[i], y[i] = r.IntN(size), r.IntN(size)
	}
	return milesOf(n, func(i, j int) int { return max(x[i]-x[j], x[j]-x[i]) + max(y[i]-y[j], y[j]-y[i]) })
}

func copied(lists [][]int) [][]int {
	other := make([][]int, len(lists))
	for i := range lists {
		other[i] = slices.Clone(lists[i])
	}
	return other
}

// shortened replaces each distance by the length of the shortest way.
func shortened(miles [][]int) [][]int {
	short := copied(miles)
	for j := range short {
		for i := range short {
			for k := range short {
				short[i][k] = min(short[i][k], short[i][j]+short[j][k])
			}
		}
	}
	return short
}

// smallMiles are all distances of few stops with few numbers.
func smallMiles() [][][]int {
	all := [][][]int{even(1, 0), even(2, 0), even(2, 1), even(2, 7), even(2, 1000)}
	for code := range 4 * 4 * 4 {
		all = append(all, milesOf(3, func(i, j int) int { return code >> (2 * (i + j - 1)) & 3 }))
	}
	for code := range 3 * 3 * 3 * 3 * 3 * 3 {
		rest := code
		all = append(all, milesOf(4, func(int, int) int {
			digit := rest % 3
			rest /= 3
			return digit
		}))
	}
	return all
}

// knownMiles are distances of all numbers of stops, with many tours of the same length.
func knownMiles() [][][]int {
	all := [][][]int{square(), bent()}
	for n := range api.MaxStops {
		n++
		all = append(all, even(n, 0), even(n, 3), even(n, 1000), line(n, 1), line(n, 100), ring(n, 2), ring(n, 1000))
		all = append(all, star(n, 0, 1, 2), star(n, n-1, 1, 1000), star(n, n/2, 9, 0))
	}
	return all
}

// randomMilesOfAll are distances of all numbers of stops, with many equal ones and with few, metric ones among them.
func randomMilesOfAll(times int) [][][]int {
	r := rand.New(rand.NewPCG(8, 1))
	var all [][][]int
	for n := range api.MaxStops {
		n++
		for range times {
			for _, most := range []int{1, 2, 4, 20, 1000} {
				all = append(all, randomMiles(r, n, most))
			}
			all = append(all, gridMiles(r, n, 5), gridMiles(r, n, 500), shortened(randomMiles(r, n, 1000)))
		}
	}
	return all
}

func someMiles() [][][]int {
	return slices.Concat(smallMiles(), knownMiles(), randomMilesOfAll(6))
}

// tours are all tours of n stops in lexicographic order.
func tours(n int) [][]int {
	var all [][]int
	var further func(begun []int)
	further = func(begun []int) {
		if len(begun) == n {
			all = append(all, slices.Clone(begun))
			return
		}
		for stop := 1; stop < n; stop++ {
			if !slices.Contains(begun, stop) {
				further(slices.Concat(begun, []int{stop}))
			}
		}
	}
	further([]int{0})
	return all
}

// firstTour is the lexicographically smallest tour.
func firstTour(n int) []int {
	var tour []int
	for stop := range n {
		tour = append(tour, stop)
	}
	return tour
}

// lengthOf holds the terms.
func lengthOf(miles [][]int, tour []int) int {
	sum := 0
	for i, stop := range tour {
		sum += miles[stop][tour[(i+1)%len(tour)]]
	}
	return sum
}

func randomTour(r *rand.Rand, n int) []int {
	tour := []int{0}
	for _, stop := range r.Perm(n - 1) {
		tour = append(tour, stop+1)
	}
	return tour
}

func randomPrices(r *rand.Rand, n, most int) []int {
	prices := make([]int, n)
	for i := range prices {
		prices[i] = r.IntN(2*most+1) - most
	}
	return prices
}

// edge is an edge with its cost.
type edge struct {
	cost, smaller, greater int
}

// isBefore is the order of the edges of P8.2 and P8.4.
func (e edge) isBefore(f edge) bool {
	return slices.Compare([]int{e.cost, e.smaller, e.greater}, []int{f.cost, f.smaller, f.greater}) < 0
}

func edgeOf(miles [][]int, prices []int, i, j int) edge {
	return edge{miles[i][j] + prices[i] + prices[j], min(i, j), max(i, j)}
}

// treeFrom grows the smallest spanning tree of the stops from first on: the first edge out of it is always in the one
// that takes all edges in their order, since no two edges are equal in this order.
func treeFrom(miles [][]int, prices []int, first int) []edge {
	var tree []edge
	in := make([]bool, len(miles))
	in[first] = true
	for range len(miles) - first - 1 {
		next := edge{cost: huge}
		for i := first; i < len(miles); i++ {
			for j := first; j < len(miles); j++ {
				if e := edgeOf(miles, prices, i, j); in[i] && !in[j] && e.isBefore(next) {
					next = e
				}
			}
		}
		in[next.smaller], in[next.greater] = true, true
		tree = append(tree, next)
	}
	return tree
}

func wantErr(t *testing.T, what any, got, want api.Errno) {
	t.Helper()
	if got != want {
		t.Fatalf("%v: error %d, want %d", what, got, want)
	}
}

func best(t *testing.T, miles [][]int) ([]int, int) {
	t.Helper()
	tour, length, err := round.Best(miles)
	wantErr(t, miles, err, api.OK)
	return tour, length
}

func length(t *testing.T, miles [][]int, tour []int) int {
	t.Helper()
	l, err := round.Length(miles, tour)
	wantErr(t, miles, err, api.OK)
	return l
}

func bound(t *testing.T, miles [][]int, prices []int) int {
	t.Helper()
	b, err := round.Bound(miles, prices)
	wantErr(t, miles, err, api.OK)
	return b
}

func improve(t *testing.T, miles [][]int, tour []int) []int {
	t.Helper()
	better, err := round.Improve(miles, tour)
	wantErr(t, miles, err, api.OK)
	return better
}

func double(t *testing.T, miles [][]int) []int {
	t.Helper()
	tour, err := round.Double(miles)
	wantErr(t, miles, err, api.OK)
	return tour
}

func climb(t *testing.T, miles [][]int, steps int) ([]int, int) {
	t.Helper()
	prices, b, err := round.Climb(miles, steps)
	wantErr(t, miles, err, api.OK)
	return prices, b
}
