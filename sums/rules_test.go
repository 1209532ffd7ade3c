package sums_test

import (
	"math/rand/v2"
	"reflect"
	"slices"
	"testing"

	"lampbox/api"
	"lampbox/sums"
)

// ofGroup calls every function that takes a group.
func ofGroup(group []int, list [][]int, e []int) ([]any, []api.Errno) {
	r1, e1 := sums.Zero(group, list)
	r2, e2 := sums.Sums(group, list)
	r3, e3 := sums.Part(group, list, e)
	r4, e4 := sums.Free(group)
	r5, e5 := sums.Bound(group)
	r6, e6 := sums.Order(group, e)
	return []any{r1, r2, r3, r4, r5, r6}, []api.Errno{e1, e2, e3, e4, e5, e6}
}

// wantAllErr fails if not all errors are ErrArg, or one comes with a result.
func wantAllErr(t *testing.T, what any, results []any, errs []api.Errno) {
	t.Helper()
	for i, err := range errs {
		if err != api.ErrArg {
			t.Fatalf("%v: function %d: error %d", what, i, err)
		}
	}
	for i, r := range results {
		if v := reflect.ValueOf(r); v.Kind() == reflect.Slice && v.Len() > 0 || v.Kind() != reflect.Slice && !v.IsZero() {
			t.Fatalf("%v: result %d is %v with an error", what, i, r)
		}
	}
}

func isGroup(group []int) bool {
	return slices.ContainsFunc(groups(), func(other []int) bool { return slices.Equal(group, other) })
}

// P5.1, P5.2: what is not a group is an error of every function, also with a list and an element that fit its length.
func TestNotGroups(t *testing.T) {
	numbers := []int{-huge - 1, -huge, -24, -2, -1, 25, 26, 48, 144, 1 << 32, 1<<32 + 2, huge}
	for m := range 25 {
		numbers = append(numbers, m)
	}
	wrong := [][]int{nil, {}, {2, 2, 2}, {1, 2, 2}, {2, 4, 8}, {2, 2, 1}, {2, 2, 2, 2}, make([]int, 1000000), slices.Repeat([]int{2}, 1000)}
	for _, m := range numbers {
		wrong = append(wrong, []int{m})
		for _, n := range numbers {
			wrong = append(wrong, []int{m, n})
		}
	}
	for _, group := range wrong {
		if isGroup(group) {
			continue
		}
		for _, zero := range [][]int{make([]int, min(len(group), 9)), {0}, {0, 0}, {}, {1}} {
			results, errs := ofGroup(group, [][]int{zero, zero}, zero)
			wantAllErr(t, group, results, errs)
			results, errs = ofGroup(group, nil, zero)
			wantAllErr(t, group, results, errs)
		}
	}
}

// P5.1, P5.2: of all short lists of moduli just the groups are right.
func TestGroups(t *testing.T) {
	for m := -3; m < 30; m++ {
		_, err := sums.Bound([]int{m})
		if isGroup([]int{m}) != (err == api.OK) {
			t.Errorf("the group %d: error %d", m, err)
		}
		for n := -3; n < 150; n++ {
			_, err := sums.Bound([]int{m, n})
			if isGroup([]int{m, n}) != (err == api.OK) {
				t.Errorf("the group %d %d: error %d", m, n, err)
			}
		}
	}
}

// notElements are lists of numbers that are no elements of a group.
func notElements(group []int) [][]int {
	zero := make([]int, len(group))
	all := [][]int{nil, {}, zero[1:], append(slices.Clone(zero), 0), make([]int, 1000000)}
	for i, m := range group {
		for _, number := range []int{-1, m, m + 1, -m, 2 * m, huge, -huge - 1, 1 << 32} {
			e := slices.Clone(zero)
			e[i] = number
			all = append(all, e)
		}
	}
	return all
}

// P5.1, P5.2: a wrong element, at any place of the list, or as the sum.
func TestNotElements(t *testing.T) {
	for _, group := range groups() {
		zero := make([]int, len(group))
		for _, e := range notElements(group) {
			for _, list := range [][][]int{{e}, {zero, e}, {e, zero}, {zero, zero, e, zero}, append(slices.Repeat([][]int{zero}, 59), e)} {
				r1, e1 := sums.Zero(group, list)
				r2, e2 := sums.Sums(group, list)
				r3, e3 := sums.Part(group, list, zero)
				r4, e4 := sums.Part(group, nil, e)
				r5, e5 := sums.Part(group, [][]int{zero}, e)
				r6, e6 := sums.Part(group, list, e)
				r7, e7 := sums.Order(group, e)
				wantAllErr(t, group, []any{r1, r2, r3, r4, r5, r6, r7}, []api.Errno{e1, e2, e3, e4, e5, e6, e7})
			}
		}
	}
}

// scratch writes over a result, also in the room behind its end.
func scratch(result any) {
	switch list := result.(type) {
	case []int:
		for i := range list[:cap(list)] {
			list[:cap(list)][i] = -7
		}
	case [][]int:
		for _, e := range list {
			scratch(e)
		}
	}
}

// P2, rule 5: a second call returns the same; arguments stay as they are; results are new memory.
func TestCallsLeaveNothingBehind(t *testing.T) {
	r := rand.New(rand.NewPCG(5, 6))
	for _, group := range groups() {
		list := append(randomList(r, group, 9), make([]int, len(group)))
		sum := list[r.IntN(len(list))]
		numbers, a, b := []int{4, -3, 8, 1, 1}, []int{6, 2, 0}, []int{4, 5}
		before := []any{slices.Clone(group), copied(list), slices.Clone(sum), slices.Clone(numbers), slices.Clone(a), slices.Clone(b)}
		all := func() []any {
			results, errs := ofGroup(group, list, sum)
			r1, e1 := sums.Exactly(3, numbers)
			r2, e2 := sums.Both(7, a, b)
			return append(results, errs, r1, e1, r2, e2)
		}
		first, kept := all(), all()
		if !reflect.DeepEqual(first, kept) {
			t.Fatalf("two calls differ: %v, %v", first, kept)
		}
		for _, result := range first {
			scratch(result)
		}
		after := []any{group, list, sum, numbers, a, b}
		if again := all(); !reflect.DeepEqual(again, kept) || !reflect.DeepEqual(after, before) {
			t.Fatalf("results or arguments share memory: %v, %v, %v", again, kept, after)
		}
	}
}

// Rule 5: no two elements of one result share memory.
func TestElementsShareNoMemory(t *testing.T) {
	for _, group := range groups() {
		for _, list := range [][][]int{free(t, group), sumsOf(t, group, free(t, group))} {
			for i, e := range list {
				others := copied(slices.Delete(slices.Clone(list), i, i+1))
				scratch(e)
				if !equal(slices.Delete(slices.Clone(list), i, i+1), others) {
					t.Fatalf("group %v: element %d shares its memory", group, i)
				}
			}
		}
	}
}

// P5.5: every list of Bound elements has a part with the sum zero.
func TestBoundIsEnough(t *testing.T) {
	for _, group := range [][]int{{2}, {3}, {4}, {5}, {2, 2}, {2, 4}} {
		for _, list := range allLists(group, bound(t, group)) {
			if _, err := sums.Zero(group, list); err != api.OK {
				t.Fatalf("Zero(%v, %v): error %d", group, list, err)
			}
		}
	}
	r := rand.New(rand.NewPCG(5, 7))
	for _, group := range groups() {
		for range 20 {
			list := randomList(r, group, bound(t, group))
			part, err := sums.Zero(group, list)
			if err != api.OK || len(part) == 0 || slices.Max(add(group, list, part)) != 0 {
				t.Fatalf("Zero(%v, %v) = %v %d", group, list, part, err)
			}
		}
		for _, e := range elements(group) {
			list := append(free(t, group), e)
			if _, err := sums.Zero(group, list); err != api.OK {
				t.Fatalf("Zero(%v, %v): error %d", group, list, err)
			}
		}
	}
}

// P5.5: a free list of n elements has at least n different sums.
func TestSumsOfFreeLists(t *testing.T) {
	r := rand.New(rand.NewPCG(5, 8))
	for _, group := range groups() {
		lists := [][][]int{free(t, group)}
		for length := range 6 {
			lists = append(lists, randomList(r, group, length))
		}
		for _, list := range lists {
			if _, err := sums.Zero(group, list); err == api.ErrNone && len(sumsOf(t, group, list)) < len(list) {
				t.Fatalf("group %v: the free list %v has too few sums", group, list)
			}
		}
	}
}

// P5.5: the order of an element divides the second, or only, modulus, and some element has it.
func TestOrdersDivide(t *testing.T) {
	for _, group := range groups() {
		last, greatest := group[len(group)-1], 0
		for _, e := range elements(group) {
			order, err := sums.Order(group, e)
			if err != api.OK || order < 1 || last%order != 0 {
				t.Fatalf("Order(%v, %v) = %d %d", group, e, order, err)
			}
			greatest = max(greatest, order)
		}
		if greatest != last {
			t.Errorf("group %v: the greatest order is %d", group, greatest)
		}
	}
}
