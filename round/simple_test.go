package round_test

import (
	"math/rand/v2"
	"slices"
	"testing"

	"lampbox/api"
	"lampbox/round"
)

// nearestByTerms goes from each stop to the nearest one that it has not visited.
func nearestByTerms(miles [][]int) []int {
	tour := []int{0}
	for len(tour) < len(miles) {
		last, next := tour[len(tour)-1], -1
		for stop := range miles {
			if !slices.Contains(tour, stop) && (next < 0 || miles[last][stop] < miles[last][next]) {
				next = stop
			}
		}
		tour = append(tour, next)
	}
	return tour
}

// P8.2.
func TestNearest(t *testing.T) {
	for _, miles := range someMiles() {
		tour, err := round.Nearest(miles)
		wantErr(t, miles, err, api.OK)
		if want := nearestByTerms(miles); !slices.Equal(tour, want) {
			t.Fatalf("Nearest(%v) = %v, want %v", miles, tour, want)
		}
	}
}

// P8.2: of several nearest stops the smallest one.
func TestKnownNearest(t *testing.T) {
	for _, x := range []struct {
		miles [][]int
		want  []int
	}{
		{[][]int{{0}}, []int{0}},
		{even(2, 5), []int{0, 1}},
		{even(11, 0), []int{0, 1, 2, 3, 4, 5, 6, 7, 8, 9, 10}},
		{square(), []int{0, 1, 2, 3}},
		{bent(), []int{0, 1, 2}},
		{star(5, 3, 1, 2), []int{0, 3, 1, 2, 4}},
		{[][]int{{0, 9, 2, 9}, {9, 0, 4, 0}, {2, 4, 0, 3}, {9, 0, 3, 0}}, []int{0, 2, 3, 1}},
	} {
		if tour, err := round.Nearest(x.miles); err != api.OK || !slices.Equal(tour, x.want) {
			t.Errorf("Nearest(%v) = %v %d, want %v", x.miles, tour, err, x.want)
		}
	}
}

// reversed reverses the part of a tour from i to j.
func reversed(tour []int, i, j int) []int {
	other := slices.Clone(tour)
	slices.Reverse(other[i : j+1])
	return other
}

// improvedOnce is the tour after the first reversal that makes it shorter, if there is one.
func improvedOnce(miles [][]int, tour []int) ([]int, bool) {
	for i := 1; i < len(tour); i++ {
		for j := i + 1; j < len(tour); j++ {
			if other := reversed(tour, i, j); lengthOf(miles, other) < lengthOf(miles, tour) {
				return other, true
			}
		}
	}
	return tour, false
}

// P8.2: the first pair is always taken, and the search begins anew after each reversal.
func TestImprove(t *testing.T) {
	r := rand.New(rand.NewPCG(8, 4))
	for _, miles := range someMiles() {
		for range 3 {
			tour := randomTour(r, len(miles))
			want := tour
			for better := true; better; {
				want, better = improvedOnce(miles, want)
			}
			if got := improve(t, miles, tour); !slices.Equal(got, want) {
				t.Fatalf("Improve(%v, %v) = %v, want %v", miles, tour, got, want)
			}
		}
	}
}

// P8.2: tours that cannot be improved stay as they are, and parts up to the last position are reversed, too.
func TestKnownImprovements(t *testing.T) {
	for _, x := range []struct {
		miles      [][]int
		tour, want []int
	}{
		{[][]int{{0}}, []int{0}, []int{0}},
		{even(2, 5), []int{0, 1}, []int{0, 1}},
		{bent(), []int{0, 2, 1}, []int{0, 2, 1}},
		{even(5, 7), []int{0, 4, 2, 3, 1}, []int{0, 4, 2, 3, 1}},
		{square(), []int{0, 2, 1, 3}, []int{0, 1, 2, 3}},
		{square(), []int{0, 1, 3, 2}, []int{0, 1, 2, 3}},
		{ring(5, 2), []int{0, 1, 2, 4, 3}, []int{0, 1, 2, 3, 4}},
	} {
		if got := improve(t, x.miles, x.tour); !slices.Equal(got, x.want) {
			t.Errorf("Improve(%v, %v) = %v, want %v", x.miles, x.tour, got, x.want)
		}
	}
}

// doubleByTerms visits the tree that grows from 0: a stop's neighbors are put on a stack, the greatest one first.
func doubleByTerms(miles [][]int) []int {
	var tour []int
	tree := treeFrom(miles, make([]int, len(miles)), 0)
	stack := []int{0}
	for len(stack) > 0 {
		stop := stack[len(stack)-1]
		stack = stack[:len(stack)-1]
		tour = append(tour, stop)
		for next := len(miles) - 1; next >= 0; next-- {
			joined := slices.ContainsFunc(tree, func(e edge) bool { return e.smaller == min(stop, next) && e.greater == max(stop, next) })
			if joined && !slices.Contains(tour, next) {
				stack = append(stack, next)
			}
		}
	}
	return tour
}

// P8.2: along the tree that takes the edges in their order.
func TestDouble(t *testing.T) {
	for _, miles := range someMiles() {
		if got, want := double(t, miles), doubleByTerms(miles); !slices.Equal(got, want) {
			t.Fatalf("Double(%v) = %v, want %v", miles, got, want)
		}
	}
}

// P8.2: neighbors in ascending order, each one with all behind it; of equal edges those with smaller ends.
func TestKnownDoubles(t *testing.T) {
	for _, x := range []struct {
		miles [][]int
		want  []int
	}{
		{[][]int{{0}}, []int{0}},
		{even(2, 5), []int{0, 1}},
		{even(11, 4), []int{0, 1, 2, 3, 4, 5, 6, 7, 8, 9, 10}},
		{star(6, 4, 1, 2), []int{0, 4, 1, 2, 3, 5}},
		{square(), []int{0, 1, 2, 3}},
		{[][]int{{0, 1, 9, 1, 9}, {1, 0, 9, 9, 2}, {9, 9, 0, 2, 9}, {1, 9, 2, 0, 9}, {9, 2, 9, 9, 0}}, []int{0, 1, 4, 3, 2}},
		{[][]int{{0, 2, 1, 1}, {2, 0, 1, 1}, {1, 1, 0, 1}, {1, 1, 1, 0}}, []int{0, 2, 1, 3}},
	} {
		if got := double(t, x.miles); !slices.Equal(got, x.want) {
			t.Errorf("Double(%v) = %v, want %v", x.miles, got, x.want)
		}
	}
}
