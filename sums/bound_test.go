package sums_test

import (
	"math/rand/v2"
	"slices"
	"testing"

	"lampbox/api"
	"lampbox/sums"
)

// P5.2: m for one modulus m, m1 + m2 - 1 for two.
func TestBound(t *testing.T) {
	for _, group := range groups() {
		want := group[0]
		if len(group) == 2 {
			want = group[0] + group[1] - 1
		}
		if got := bound(t, group); got != want {
			t.Errorf("Bound(%v) = %d, want %d", group, got, want)
		}
	}
}

// P5.2: Free returns elements, one less than Bound, of which no part has the sum zero.
func TestFree(t *testing.T) {
	for _, group := range groups() {
		list := free(t, group)
		if len(list) != bound(t, group)-1 {
			t.Errorf("Free(%v) has %d elements", group, len(list))
		}
		all := elements(group)
		for _, e := range list {
			if !slices.ContainsFunc(all, func(other []int) bool { return slices.Equal(e, other) }) {
				t.Fatalf("Free(%v) has the wrong element %v", group, e)
			}
		}
		if part, ok := reachOf(group, list).firstReached(group, list, make([]int, len(group)), 1); ok {
			t.Errorf("Free(%v) = %v has the sum zero at %v", group, list, part)
		}
	}
}

// sumsByTerms are the sums of all parts but the empty one.
func sumsByTerms(group []int, list [][]int) [][]int {
	var all [][]int
	for _, sum := range elements(group) {
		if _, ok := firstPart(group, list, sum, 1); ok {
			all = append(all, sum)
		}
	}
	return all
}

// P5.2.
func TestSums(t *testing.T) {
	r := rand.New(rand.NewPCG(5, 3))
	var small [][][]int
	for length := range 5 {
		small = append(small, allLists([]int{3}, length)...)
	}
	for _, list := range small {
		if got := sumsOf(t, []int{3}, list); !equal(got, sumsByTerms([]int{3}, list)) {
			t.Fatalf("Sums(3, %v) = %v", list, got)
		}
	}
	for _, group := range groups() {
		for length := range 7 {
			list := randomList(r, group, length)
			if got := sumsOf(t, group, list); !equal(got, sumsByTerms(group, list)) {
				t.Fatalf("Sums(%v, %v) = %v", group, list, got)
			}
		}
	}
}

// P5.2: zero is one of the sums only if a part that is not empty has it.
func TestSumsOfKnownLists(t *testing.T) {
	for _, x := range []struct {
		group []int
		list  [][]int
		want  [][]int
	}{
		{[]int{3}, nil, nil},
		{[]int{3}, [][]int{{0}}, [][]int{{0}}},
		{[]int{3}, [][]int{{2}}, [][]int{{2}}},
		{[]int{3}, [][]int{{2}, {2}}, [][]int{{1}, {2}}},
		{[]int{12}, [][]int{{11}, {10}}, [][]int{{9}, {10}, {11}}},
		{[]int{2, 2}, [][]int{{1, 0}, {0, 1}}, [][]int{{0, 1}, {1, 0}, {1, 1}}},
		{[]int{2, 12}, [][]int{{1, 2}, {0, 11}}, [][]int{{0, 11}, {1, 1}, {1, 2}}},
		{[]int{12, 12}, slices.Repeat([][]int{{0, 1}, {1, 0}}, 30), elements([]int{12, 12})},
		{[]int{6, 24}, slices.Repeat([][]int{{0, 1}, {1, 0}}, 30), elements([]int{6, 24})},
		{[]int{24}, slices.Repeat([][]int{{23}}, 60), elements([]int{24})},
	} {
		if got := sumsOf(t, x.group, x.list); !equal(got, x.want) {
			t.Errorf("Sums(%v, %v) = %v, want %v", x.group, x.list, got, x.want)
		}
	}
}

// P5.2: the element is added to itself by the terms.
func TestOrder(t *testing.T) {
	for _, group := range groups() {
		zero := make([]int, len(group))
		for _, e := range elements(group) {
			want, list, part := 1, [][]int{e}, []int{0}
			for !slices.Equal(add(group, list, part), zero) {
				want++
				part = append(part, 0)
			}
			if got, err := sums.Order(group, e); err != api.OK || got != want {
				t.Fatalf("Order(%v, %v) = %d %d, want %d", group, e, got, err, want)
			}
		}
	}
}
