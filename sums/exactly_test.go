package sums_test

import (
	"math/rand/v2"
	"slices"
	"testing"

	"lampbox/api"
	"lampbox/sums"
)

// remainder is from 0 to n - 1, for negative numbers, too.
func remainder(number, n int) int {
	r := number % n
	if r < 0 {
		r += n
	}
	return r
}

// exactlyByTerms takes all parts of n numbers, in lexicographic order.
func exactlyByTerms(n int, numbers []int) []int {
	for _, part := range parts(0, len(numbers), n) {
		sum := 0
		for _, at := range part {
			sum = (sum + remainder(numbers[at], n)) % n
		}
		if sum == 0 {
			return part
		}
	}
	return nil
}

// exactlyByReach takes the smallest positions that leave a way to n numbers whose sum is a multiple of n.
func exactlyByReach(n int, numbers []int) []int {
	var list [][]int
	for _, number := range numbers {
		list = append(list, []int{remainder(number, n)})
	}
	part, _ := reachOf([]int{n}, list).firstReached([]int{n}, list, []int{0}, n)
	return part
}

func wantExactly(t *testing.T, n int, numbers, want []int) {
	t.Helper()
	if part, err := sums.Exactly(n, numbers); err != api.OK || len(part) != n || !slices.Equal(part, want) {
		t.Fatalf("Exactly(%d, %v) = %v %d, want %v", n, numbers, part, err, want)
	}
}

// P5.3, P4.
func TestExactly(t *testing.T) {
	r := rand.New(rand.NewPCG(5, 4))
	for n := 1; n <= 6; n++ {
		for range 300 {
			numbers := make([]int, 2*n-1)
			for i := range numbers {
				numbers[i] = r.IntN(4*n) - 2*n
			}
			wantExactly(t, n, numbers, exactlyByTerms(n, numbers))
		}
	}
	for n := 7; n <= api.MaxExact; n++ {
		for _, few := range []int{2, 3, n, 10 * n} {
			numbers := make([]int, 2*n-1)
			for i := range numbers {
				numbers[i] = r.IntN(few) - few/2
			}
			wantExactly(t, n, numbers, exactlyByReach(n, numbers))
		}
	}
}

// P5.3: with n - 1 zeros and n - 1 ones, only one further number decides; numbers may be any ints.
func TestExactlyOfKnownNumbers(t *testing.T) {
	for _, x := range []struct {
		n             int
		numbers, want []int
	}{
		{3, []int{0, 0, 1, 1, 2}, []int{0, 2, 4}},
		{1, []int{7}, []int{0}},
		{1, []int{-huge - 1}, []int{0}},
		{2, []int{0, 1, 0}, []int{0, 2}},
		{2, []int{1, 0, 0}, []int{1, 2}},
		{2, []int{-1, 1, 0}, []int{0, 1}},
		{2, []int{huge, huge, huge}, []int{0, 1}},
		{2, []int{-huge - 1, huge, -huge}, []int{1, 2}},
		{3, []int{huge, huge, huge, huge, huge}, []int{0, 1, 2}},
		{3, []int{-huge - 1, -huge - 1, -huge, -huge, 0}, []int{0, 2, 4}},
		{3, []int{-huge - 1, -huge - 1, -huge, -huge, -1}, []int{2, 3, 4}},
		{3, []int{0, 0, 1, 1, 0}, []int{0, 1, 4}},
		{3, []int{0, 0, 1, 1, 1}, []int{2, 3, 4}},
		{4, []int{-4, 5, -4, 5, 5, 8, 9}, []int{1, 3, 4, 6}},
		{20, make([]int, 39), []int{0, 1, 2, 3, 4, 5, 6, 7, 8, 9, 10, 11, 12, 13, 14, 15, 16, 17, 18, 19}},
	} {
		wantExactly(t, x.n, x.numbers, x.want)
	}
}

// P5.3: n first, then the number of the numbers.
func TestExactlyOfWrongArguments(t *testing.T) {
	for _, n := range []int{0, -1, 21, 22, huge, -huge - 1, -huge, 1 << 62, 1<<62 + 1} {
		for _, length := range []int{0, 1, 2, 39, 41, 43} {
			wantExactlyErr(t, n, make([]int, length))
		}
	}
	for n := 1; n <= 20; n++ {
		for _, length := range []int{0, n, 2*n - 2, 2 * n, 2*n + 1, 1000000} {
			if length != 2*n-1 {
				wantExactlyErr(t, n, make([]int, length))
			}
		}
		wantExactlyErr(t, n, nil)
	}
}

func wantExactlyErr(t *testing.T, n int, numbers []int) {
	t.Helper()
	if part, err := sums.Exactly(n, numbers); err != api.ErrArg || len(part) != 0 {
		t.Errorf("Exactly(%d, %d numbers) = %v %d", n, len(numbers), part, err)
	}
}
