package sums_test

import (
	"math/rand/v2"
	"slices"
	"testing"

	"lampbox/api"
	"lampbox/sums"
)

// wantFirst compares Zero and Part with the parts that a search by the terms returns.
func wantFirst(t *testing.T, group []int, list [][]int, first func(sum []int, least int) ([]int, bool)) {
	t.Helper()
	got, err := sums.Zero(group, list)
	want, ok := first(make([]int, len(group)), 1)
	wantPart(t, "Zero", group, list, got, err, want, ok)
	for _, sum := range elements(group) {
		got, err := sums.Part(group, list, sum)
		want, ok := first(sum, 0)
		wantPart(t, "Part", group, list, got, err, want, ok)
	}
}

func byTerms(group []int, list [][]int) func([]int, int) ([]int, bool) {
	return func(sum []int, least int) ([]int, bool) { return firstPart(group, list, sum, least) }
}

// P5.1, P3, P4: all lists of small groups.
func TestAllShortLists(t *testing.T) {
	for _, x := range []struct {
		group  []int
		length int
	}{{[]int{2}, 6}, {[]int{3}, 5}, {[]int{4}, 4}, {[]int{5}, 3}, {[]int{2, 2}, 4}, {[]int{2, 4}, 3}, {[]int{3, 3}, 3}} {
		for length := range x.length + 1 {
			for _, list := range allLists(x.group, length) {
				wantFirst(t, x.group, list, byTerms(x.group, list))
			}
		}
	}
}

// P5.1, P3, P4: lists of all groups.
func TestRandomLists(t *testing.T) {
	r := rand.New(rand.NewPCG(5, 1))
	for _, group := range groups() {
		for length := range 9 {
			list := randomList(r, group, length)
			wantFirst(t, group, list, byTerms(group, list))
		}
	}
}

// P5.1, P3, P4: lists up to the limit, also ones of few different elements, whose parts are long.
func TestLongLists(t *testing.T) {
	r := rand.New(rand.NewPCG(5, 2))
	for _, group := range [][]int{{2}, {7}, {23}, {24}, {2, 2}, {3, 6}, {2, 24}, {12, 12}} {
		for _, length := range []int{20, 59, 60} {
			few := randomList(r, group, 3)
			list := randomList(r, group, length)
			same := make([][]int, length)
			for i := range same {
				same[i] = few[r.IntN(len(few))]
			}
			for _, l := range [][][]int{list, same} {
				reached := reachOf(group, l)
				wantFirst(t, group, l, func(sum []int, least int) ([]int, bool) { return reached.firstReached(group, l, sum, least) })
			}
		}
	}
}

// P5.1: the chapter's example, the shortest part before the first one, and equal elements.
func TestZeroOfKnownLists(t *testing.T) {
	for _, x := range []struct {
		group []int
		list  [][]int
		want  []int
	}{
		{[]int{3}, [][]int{{1}, {1}, {1}}, []int{0, 1, 2}},
		{[]int{3}, [][]int{{1}, {1}, {1}, {1}}, []int{0, 1, 2}},
		{[]int{3}, [][]int{{1}, {1}, {1}, {2}}, []int{0, 3}},
		{[]int{3}, [][]int{{1}, {2}, {0}}, []int{2}},
		{[]int{3}, [][]int{{0}, {0}}, []int{0}},
		{[]int{5}, [][]int{{1}, {2}, {3}, {4}}, []int{0, 3}},
		{[]int{24}, slices.Repeat([][]int{{1}}, 24), []int{0, 1, 2, 3, 4, 5, 6, 7, 8, 9, 10, 11, 12, 13, 14, 15, 16, 17, 18, 19, 20, 21, 22, 23}},
		{[]int{24}, slices.Repeat([][]int{{1}}, 23), nil},
		{[]int{2, 2}, [][]int{{0, 1}, {1, 0}}, nil},
		{[]int{2, 2}, [][]int{{0, 1}, {1, 0}, {1, 1}}, []int{0, 1, 2}},
		{[]int{2, 4}, [][]int{{1, 2}, {1, 0}, {0, 3}, {1, 2}}, []int{0, 3}},
		{[]int{2, 4}, nil, nil},
		{[]int{2}, [][]int{}, nil},
	} {
		part, err := sums.Zero(x.group, x.list)
		wantPart(t, "Zero", x.group, x.list, part, err, x.want, x.want != nil)
	}
}

// P5.1: Part returns the empty part, too; and ErrNone comes without a part.
func TestPartOfKnownLists(t *testing.T) {
	for _, x := range []struct {
		group []int
		list  [][]int
		sum   []int
		want  []int
		ok    bool
	}{
		{[]int{3}, nil, []int{0}, nil, true},
		{[]int{3}, nil, []int{1}, nil, false},
		{[]int{3}, [][]int{{0}, {0}}, []int{0}, nil, true},
		{[]int{3}, [][]int{{0}, {0}}, []int{2}, nil, false},
		{[]int{3}, [][]int{{1}, {1}, {1}}, []int{2}, []int{0, 1}, true},
		{[]int{3}, [][]int{{1}, {1}, {2}}, []int{2}, []int{2}, true},
		{[]int{6}, [][]int{{2}, {4}, {0}, {2}}, []int{3}, nil, false},
		{[]int{2, 2}, [][]int{{0, 1}, {1, 0}}, []int{1, 1}, []int{0, 1}, true},
		{[]int{2, 2}, [][]int{{0, 1}, {0, 1}}, []int{1, 0}, nil, false},
		{[]int{2, 2}, [][]int{}, []int{0, 0}, nil, true},
		{[]int{12, 12}, slices.Repeat([][]int{{1, 1}}, 60), []int{11, 11}, []int{0, 1, 2, 3, 4, 5, 6, 7, 8, 9, 10}, true},
	} {
		part, err := sums.Part(x.group, x.list, x.sum)
		wantPart(t, "Part", x.group, x.list, part, err, x.want, x.ok)
	}
}

// P5.1: the list has at most 60 elements.
func TestLengthOfLists(t *testing.T) {
	for _, group := range [][]int{{2}, {24}, {2, 2}, {6, 24}} {
		zero := make([]int, len(group))
		for _, x := range []struct {
			length int
			want   api.Errno
		}{{60, api.OK}, {61, api.ErrArg}, {1000000, api.ErrArg}} {
			list := slices.Repeat([][]int{zero}, x.length)
			_, err := sums.Zero(group, list)
			wantErr(t, x.length, err, x.want)
			_, err = sums.Part(group, list, zero)
			wantErr(t, x.length, err, x.want)
			_, err = sums.Sums(group, list)
			wantErr(t, x.length, err, x.want)
		}
	}
}
