package round_test

import (
	"math/rand/v2"
	"slices"
	"testing"

	"lampbox/api"
	"lampbox/round"
)

// P8.5: Best is at most as long as every other tour, and no bound is greater than the length of any tour.
func TestBoundsOfTours(t *testing.T) {
	r := rand.New(rand.NewPCG(8, 5))
	for _, miles := range someMiles() {
		n := len(miles)
		_, shortest := best(t, miles)
		_, greatest := climb(t, miles, 100)
		for _, most := range []int{0, 1, 30, 1000, api.MaxPrice} {
			greatest = max(greatest, bound(t, miles, randomPrices(r, n, most)))
		}
		if greatest > shortest {
			t.Fatalf("%v: the bound %d, the shortest tour %d", miles, greatest, shortest)
		}
		nearest, err := round.Nearest(miles)
		wantErr(t, miles, err, api.OK)
		others := [][]int{nearest, double(t, miles), improve(t, miles, nearest)}
		for range 20 {
			others = append(others, randomTour(r, n))
		}
		for _, tour := range others {
			if length(t, miles, tour) < shortest {
				t.Fatalf("%v: %v is shorter than %d", miles, tour, shortest)
			}
		}
	}
}

// P8.5: of few stops, all tours.
func TestBoundsOfAllTours(t *testing.T) {
	r := rand.New(rand.NewPCG(8, 6))
	for _, miles := range someMiles() {
		n := len(miles)
		if n > 6 {
			continue
		}
		_, shortest := best(t, miles)
		b := bound(t, miles, randomPrices(r, n, 500))
		for _, tour := range tours(n) {
			if l := length(t, miles, tour); l < shortest || l < b {
				t.Fatalf("%v: %v has the length %d, the best %d, the bound %d", miles, tour, l, shortest, b)
			}
		}
	}
}

// P8.5: Improve never makes a tour longer, and improving twice changes nothing more.
func TestImprovingTwice(t *testing.T) {
	r := rand.New(rand.NewPCG(8, 7))
	for _, miles := range someMiles() {
		for range 5 {
			tour := randomTour(r, len(miles))
			once := improve(t, miles, tour)
			if length(t, miles, once) > length(t, miles, tour) {
				t.Fatalf("Improve(%v, %v) = %v is longer", miles, tour, once)
			}
			if twice := improve(t, miles, once); !slices.Equal(twice, once) {
				t.Fatalf("Improve(%v, %v) = %v", miles, once, twice)
			}
		}
	}
}

// without leaves out a stop.
func without(miles [][]int, gone int) [][]int {
	return milesOf(len(miles)-1, func(i, j int) int {
		if i >= gone {
			i++
		}
		if j >= gone {
			j++
		}
		return miles[i][j]
	})
}

// P8.5: of metric distances, Double is at most twice as long as Best, and leaving out a stop makes the best tour no longer.
func TestMetricTours(t *testing.T) {
	for _, miles := range slices.Concat(knownMiles(), randomMilesOfAll(2)) {
		miles = shortened(miles)
		_, shortest := best(t, miles)
		if l := length(t, miles, double(t, miles)); l > 2*shortest {
			t.Fatalf("%v: Double has the length %d, Best %d", miles, l, shortest)
		}
		if len(miles) == 1 {
			continue
		}
		for _, gone := range []int{0, len(miles) / 2, len(miles) - 1} {
			if _, rest := best(t, without(miles, gone)); rest > shortest {
				t.Fatalf("%v: the length %d, without %d %d", miles, shortest, gone, rest)
			}
		}
	}
}

// P8.5: adding a number to all distances of a stop adds twice this number to all tours, for at least three stops.
func TestFartherStops(t *testing.T) {
	r := rand.New(rand.NewPCG(8, 8))
	for n := 3; n <= api.MaxStops; n++ {
		for range 20 {
			miles := randomMiles(r, n, 500)
			stop, more := r.IntN(n), r.IntN(501)
			farther := milesOf(n, func(i, j int) int {
				if i == stop || j == stop {
					return miles[i][j] + more
				}
				return miles[i][j]
			})
			tour, shortest := best(t, miles)
			if other, l := best(t, farther); l != shortest+2*more || !slices.Equal(other, tour) {
				t.Fatalf("%v: Best %v %d; stop %d farther by %d: %v %d", miles, tour, shortest, stop, more, other, l)
			}
			other := randomTour(r, n)
			if l := length(t, farther, other); l != length(t, miles, other)+2*more {
				t.Fatalf("%v: stop %d farther by %d: the length of %v is %d", miles, stop, more, other, l)
			}
		}
	}
}
