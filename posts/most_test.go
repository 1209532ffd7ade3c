package posts_test

import (
	"slices"
	"testing"

	"lampbox/api"
	"lampbox/posts"
)

// most returns what Most returns, and fails if a pair or the cover is wrong. As many lines as pairs
// prove both: each pair needs a line of its own.
func most(t *testing.T, table [][]int) [][2]int {
	t.Helper()
	pairs, rows, columns, err := posts.Most(table)
	what := func(wrong string) {
		t.Helper()
		t.Fatalf("Most(%v) = %v %v %v %d: %s", table, pairs, rows, columns, err, wrong)
	}
	if err != api.OK || len(pairs) != len(rows)+len(columns) {
		what("an error, or not as many lines as pairs")
	}
	used := map[int]bool{}
	for i, p := range pairs {
		if p[0] < 0 || p[0] >= len(table) || p[1] < 0 || p[1] >= len(table) || used[p[1]] || table[p[0]][p[1]] == 0 {
			what("no pair")
		}
		if i > 0 && p[0] <= pairs[i-1][0] {
			what("rows do not ascend")
		}
		used[p[1]] = true
	}
	for _, list := range [][]int{rows, columns} {
		for i, line := range list {
			if line < 0 || line >= len(table) || i > 0 && line <= list[i-1] {
				what("no ascending lines")
			}
		}
	}
	for row, numbers := range table {
		for column, number := range numbers {
			if number > 0 && !slices.Contains(rows, row) && !slices.Contains(columns, column) {
				what("a number is not covered")
			}
		}
	}
	return pairs
}

// greatest is the greatest number of pairs, by trying all columns for each row.
func greatest(table [][]int, row, used int) int {
	if row == len(table) {
		return 0
	}
	best := greatest(table, row+1, used)
	for column, number := range table[row] {
		if number > 0 && used>>column&1 == 0 {
			best = max(best, 1+greatest(table, row+1, used|1<<column))
		}
	}
	return best
}

// P7.3, P3.
func TestMost(t *testing.T) {
	for _, table := range someTables() {
		pairs := most(t, table)
		if len(table) <= 6 && len(pairs) != greatest(table, 0, 0) {
			t.Fatalf("Most(%v) has %d pairs", table, len(pairs))
		}
		if (len(pairs) == len(table)) != (choicesOf(table) > 0) {
			t.Fatalf("Most(%v) has %d pairs, and there are %d choices", table, len(pairs), choicesOf(table))
		}
	}
}

// P7.3, P3: all tables of four rows with few positive numbers.
func TestMostOfFourRows(t *testing.T) {
	for bits := range 1 << 16 {
		table := tableOf(4, func(row, column int) int { return bits >> (4*row + column) & 1 })
		if pairs := most(t, table); bits%17 == 0 && len(pairs) != greatest(table, 0, 0) {
			t.Fatalf("Most(%v) has %d pairs", table, len(pairs))
		}
	}
}

// P7.3: known numbers of pairs, and pairs and lines of which there is only one set.
func TestKnownMost(t *testing.T) {
	for _, x := range []struct {
		table [][]int
		want  int
	}{
		{nil, 0},
		{[][]int{}, 0},
		{[][]int{{0}}, 0},
		{[][]int{{9}}, 1},
		{[][]int{{1, 0}, {1, 0}}, 1},
		{[][]int{{1, 1}, {1, 0}}, 2},
		{full(10, 0), 0},
		{full(10, 9), 10},
		{diagonal(10, 3), 10},
		{triangle(10), 10},
		{narrow(10, 4, 2), 8},
		{narrow(10, 10, 1), 1},
		{narrow(10, 9, 0), 1},
		{transposed(narrow(10, 7, 3)), 6},
	} {
		if pairs := most(t, x.table); len(pairs) != x.want {
			t.Errorf("Most(%v) has %d pairs, want %d", x.table, len(pairs), x.want)
		}
	}
	pairs, rows, columns, err := posts.Most([][]int{{0, 1, 0}, {0, 1, 0}, {2, 0, 3}})
	if err != api.OK || len(pairs) != 2 || pairs[1][0] != 2 || !slices.Equal(rows, []int{2}) || !slices.Equal(columns, []int{1}) {
		t.Errorf("Most = %v %v %v %d", pairs, rows, columns, err)
	}
}
