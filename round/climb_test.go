package round_test

import (
	"slices"
	"testing"

	"lampbox/api"
	"lampbox/round"
)

// chosenOf are the edges of the bound of at least three stops.
func chosenOf(miles [][]int, prices []int) []edge {
	var atZero []edge
	for stop := 1; stop < len(miles); stop++ {
		atZero = append(atZero, edgeOf(miles, prices, 0, stop))
	}
	slices.SortFunc(atZero, func(e, f edge) int {
		if e.isBefore(f) {
			return -1
		}
		return 1
	})
	return slices.Concat(treeFrom(miles, prices, 1), atZero[:2])
}

// climbed are all prices that occur in so many steps.
func climbed(miles [][]int, steps int) [][]int {
	n := len(miles)
	all := [][]int{make([]int, n)}
	for range steps {
		next := slices.Clone(all[len(all)-1])
		if n >= 3 {
			chosen := chosenOf(miles, next)
			for stop := range next {
				next[stop] -= 2
				for _, e := range chosen {
					if e.smaller == stop || e.greater == stop {
						next[stop]++
					}
				}
			}
		}
		all = append(all, next)
	}
	return all
}

// highestOf are the first prices with the greatest bound.
func highestOf(miles [][]int, all [][]int) ([]int, int) {
	highest, greatest := all[0], boundByGrowing(miles, all[0])
	for _, prices := range all[1:] {
		if b := boundByGrowing(miles, prices); b > greatest {
			highest, greatest = prices, b
		}
	}
	return highest, greatest
}

// P8.4: no steps, few, and as many as there may be.
func TestClimb(t *testing.T) {
	for _, miles := range someMiles() {
		all := climbed(miles, api.MaxSteps)
		for _, steps := range []int{0, 1, 2, 3, 10, 99, 100} {
			want, greatest := highestOf(miles, all[:steps+1])
			if got, b := climb(t, miles, steps); !slices.Equal(got, want) || b != greatest {
				t.Fatalf("Climb(%v, %d) = %v %d, want %v %d", miles, steps, got, b, want, greatest)
			}
		}
	}
}

// P8.4: prices 0 are the first ones, and those after the last step are among them.
func TestKnownClimbs(t *testing.T) {
	for _, x := range []struct {
		miles [][]int
		steps int
		want  []int
		bound int
	}{
		{[][]int{{0}}, 0, []int{0}, 0},
		{[][]int{{0}}, 100, []int{0}, 0},
		{even(2, 7), 0, []int{0, 0}, 14},
		{even(2, 7), 100, []int{0, 0}, 14},
		{bent(), 100, []int{0, 0, 0}, 7},
		{square(), 0, []int{0, 0, 0, 0}, 4},
		{square(), 100, []int{0, 0, 0, 0}, 4},
		{star(4, 3, 1, 5), 0, []int{0, 0, 0, 0}, 8},
		{star(4, 3, 1, 5), 1, []int{0, 0, -1, 1}, 9},
		{star(4, 3, 1, 5), 2, []int{0, -1, -1, 2}, 11},
		{star(4, 3, 1, 5), 100, []int{0, -1, -1, 2}, 11},
	} {
		if got, b := climb(t, x.miles, x.steps); !slices.Equal(got, x.want) || b != x.bound {
			t.Errorf("Climb(%v, %d) = %v %d, want %v %d", x.miles, x.steps, got, b, x.want, x.bound)
		}
	}
}

// P8.4: the bound is that of the prices; more steps make it no smaller; the price of 0 never changes.
func TestClimbedPrices(t *testing.T) {
	for _, miles := range slices.Concat(knownMiles(), randomMilesOfAll(3)) {
		last := -huge
		for _, steps := range []int{0, 1, 2, 5, 20, 50, 100} {
			prices, b := climb(t, miles, steps)
			if b != bound(t, miles, prices) || b < last || prices[0] != 0 {
				t.Fatalf("Climb(%v, %d) = %v %d after %d", miles, steps, prices, b, last)
			}
			last = b
		}
	}
}

// P8.4: numbers that are no steps.
func TestNotSteps(t *testing.T) {
	for n := 1; n <= api.MaxStops; n++ {
		for _, steps := range []int{-1, 101, 102, 1 << 32, huge, -huge, -huge - 1} {
			prices, b, err := round.Climb(even(n, 1), steps)
			if len(prices) > 0 || b != 0 || err != api.ErrArg {
				t.Errorf("Climb of %d stops, %d = %v %d %d", n, steps, prices, b, err)
			}
		}
	}
}
