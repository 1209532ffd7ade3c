package sums_test

import (
	"math/rand/v2"
	"slices"
	"strconv"
	"testing"

	"lampbox/api"
	"lampbox/sums"
)

const huge = 1<<63 - 1

func wantErr(t *testing.T, what any, got, want api.Errno) {
	t.Helper()
	if got != want {
		t.Fatalf("%v: error %d, want %d", what, got, want)
	}
}

// groups are all groups, as the chapter defines them.
func groups() [][]int {
	var all [][]int
	for m := 2; m <= 24; m++ {
		all = append(all, []int{m})
		for n := m; n <= 24; n += m {
			if m*n <= 144 {
				all = append(all, []int{m, n})
			}
		}
	}
	return all
}

// elements are all elements of a group, in lexicographic order.
func elements(group []int) [][]int {
	all := [][]int{{}}
	for _, m := range group {
		var longer [][]int
		for _, e := range all {
			for number := range m {
				longer = append(longer, slices.Concat(e, []int{number}))
			}
		}
		all = longer
	}
	return all
}

func randomList(r *rand.Rand, group []int, length int) [][]int {
	list := make([][]int, length)
	for i := range list {
		for _, m := range group {
			list[i] = append(list[i], r.IntN(m))
		}
	}
	return list
}

// allLists are all lists of a length.
func allLists(group []int, length int) [][][]int {
	all := [][][]int{{}}
	for range length {
		var longer [][][]int
		for _, list := range all {
			for _, e := range elements(group) {
				longer = append(longer, slices.Concat(list, [][]int{e}))
			}
		}
		all = longer
	}
	return all
}

// add returns the sum of the elements at the positions of a part.
func add(group []int, list [][]int, part []int) []int {
	sum := make([]int, len(group))
	for _, at := range part {
		for i, m := range group {
			sum[i] = (sum[i] + list[at][i]) % m
		}
	}
	return sum
}

// parts are all parts with so many of so many positions, in lexicographic order.
func parts(from, end, many int) [][]int {
	if many == 0 {
		return [][]int{{}}
	}
	var all [][]int
	for at := from; at < end; at++ {
		for _, rest := range parts(at+1, end, many-1) {
			all = append(all, slices.Concat([]int{at}, rest))
		}
	}
	return all
}

// firstPart takes all parts of at least so many elements, the shorter ones first, and then the lexicographically smaller ones.
func firstPart(group []int, list [][]int, sum []int, least int) ([]int, bool) {
	for many := least; many <= len(list); many++ {
		for _, part := range parts(0, len(list), many) {
			if slices.Equal(add(group, list, part), sum) {
				return part, true
			}
		}
	}
	return nil, false
}

// reach has for each position of a list, and for its end, whether so many elements from there on have a sum.
type reach []map[string]bool

func name(many int, sum []int) string {
	text := strconv.Itoa(many)
	for _, number := range sum {
		text += " " + strconv.Itoa(number)
	}
	return text
}

func reachOf(group []int, list [][]int) reach {
	sums := elements(group)
	r := make(reach, len(list)+1)
	r[len(list)] = map[string]bool{name(0, make([]int, len(group))): true}
	for from := len(list) - 1; from >= 0; from-- {
		r[from] = map[string]bool{}
		for many := range len(list) - from + 1 {
			for _, sum := range sums {
				if r[from+1][name(many, sum)] || r[from+1][name(many-1, without(group, sum, list[from]))] {
					r[from][name(many, sum)] = true
				}
			}
		}
	}
	return r
}

func without(group, sum, e []int) []int {
	rest := make([]int, len(group))
	for i, m := range group {
		rest[i] = (sum[i] + m - e[i]) % m
	}
	return rest
}

// firstReached returns the same as firstPart, also for long lists: it takes the smallest positions that leave a way to the sum.
func (r reach) firstReached(group []int, list [][]int, sum []int, least int) ([]int, bool) {
	many := least
	for many <= len(list) && !r[0][name(many, sum)] {
		many++
	}
	if many > len(list) {
		return nil, false
	}
	part := []int{}
	for at := 0; len(part) < many; at++ {
		left, rest := many-len(part)-1, without(group, sum, list[at])
		if r[at+1][name(left, rest)] {
			part = append(part, at)
			sum = rest
		}
	}
	return part, true
}

func wantPart(t *testing.T, what string, group []int, list [][]int, got []int, err api.Errno, want []int, ok bool) {
	t.Helper()
	wanted := api.OK
	if !ok {
		wanted = api.ErrNone
	}
	if err != wanted || !slices.Equal(got, want) {
		t.Fatalf("%s of %v, %v: %v %d, want %v %d", what, group, list, got, err, want, wanted)
	}
}

func bound(t *testing.T, group []int) int {
	t.Helper()
	length, err := sums.Bound(group)
	wantErr(t, group, err, api.OK)
	return length
}

func free(t *testing.T, group []int) [][]int {
	t.Helper()
	list, err := sums.Free(group)
	wantErr(t, group, err, api.OK)
	return list
}

func sumsOf(t *testing.T, group []int, list [][]int) [][]int {
	t.Helper()
	all, err := sums.Sums(group, list)
	wantErr(t, group, err, api.OK)
	return all
}

func equal(a, b [][]int) bool {
	return slices.EqualFunc(a, b, slices.Equal)
}

func copied(list [][]int) [][]int {
	var other [][]int
	for _, e := range list {
		other = append(other, slices.Clone(e))
	}
	return other
}
