package posts_test

import (
	"reflect"
	"slices"
	"testing"

	"lampbox/api"
	"lampbox/posts"
)

// P7.1.
func TestPermanent(t *testing.T) {
	for _, table := range someTables() {
		want := permanentBySums(table)
		if len(table) <= 6 && want != permanentByTerms(table) {
			t.Fatalf("the test's permanents of %v differ", table)
		}
		if got, err := posts.Permanent(table); err != api.OK || got != want {
			t.Fatalf("Permanent(%v) = %d %d, want %d", table, got, err, want)
		}
	}
}

// P7.1: the chapter's examples, no rows, and the greatest permanent.
func TestKnownPermanents(t *testing.T) {
	for _, x := range []struct {
		table [][]int
		want  int
	}{
		{nil, 1},
		{[][]int{}, 1},
		{[][]int{{0}}, 0},
		{[][]int{{9}}, 9},
		{[][]int{{1, 1}, {1, 1}}, 2},
		{[][]int{{1, 0}, {1, 0}}, 0},
		{[][]int{{1, 2}, {3, 4}}, 10},
		{[][]int{{1, 2, 3}, {4, 5, 6}, {7, 8, 9}}, 450},
		{full(4, 1), 24},
		{full(10, 1), 3628800},
		{full(10, 9), 3628800 * 3486784401},
		{derangements(10), 1334961},
		{cycle(10), 2 * 1 * 2 * 3 * 1 * 2 * 3 * 1 * 2 * 3 * 1},
		{diagonal(10, 9), 3486784401},
	} {
		if got, err := posts.Permanent(x.table); err != api.OK || got != x.want {
			t.Errorf("Permanent(%v) = %d %d, want %d", x.table, got, err, x.want)
		}
	}
}

// P7.1.
func TestWithout(t *testing.T) {
	for _, table := range someTables() {
		for row := range table {
			for column := range table {
				got, err := posts.Without(table, row, column)
				want := minor(table, row, column)
				if err != api.OK || len(got) != len(want) || len(want) > 0 && !reflect.DeepEqual(got, want) {
					t.Fatalf("Without(%v, %d, %d) = %v %d", table, row, column, got, err)
				}
			}
		}
	}
}

// P7.1: the rows and columns that there are not.
func TestWithoutOfWrongLines(t *testing.T) {
	for n := range api.MaxPosts + 1 {
		wrong := []int{-1, -2, -n - 1, n, n + 1, 10, 11, 1 << 32, huge, -huge, -huge - 1}
		for _, line := range wrong {
			pairs := [][2]int{{line, line}}
			for other := range n {
				pairs = append(pairs, [2]int{line, other}, [2]int{other, line})
			}
			for _, p := range pairs {
				if p[0] >= 0 && p[0] < n && p[1] >= 0 && p[1] < n {
					continue
				}
				if got, err := posts.Without(full(n, 1), p[0], p[1]); err != api.ErrArg || len(got) != 0 {
					t.Fatalf("Without(%d rows, %d, %d) = %v %d", n, p[0], p[1], got, err)
				}
			}
		}
	}
	for _, none := range [][][]int{nil, {}} {
		if got, err := posts.Without(none, 0, 0); err != api.ErrArg || len(got) != 0 {
			t.Errorf("Without of no rows = %v %d", got, err)
		}
	}
}

func wantItem(t *testing.T, table [][]int, k int, want []int) {
	t.Helper()
	if got, err := posts.Item(table, k); err != api.OK || !slices.Equal(got, want) {
		t.Fatalf("Item(%v, %d) = %v %d, want %v", table, k, got, err, want)
	}
}

// wantNoItem fails if there is an item where there are only many of them.
func wantNoItem(t *testing.T, table [][]int, many int) {
	t.Helper()
	for _, k := range []int{many, many + 1, many + 2, 2*many + 3, factorial(10), huge, huge - 1, 1 << 32, 1<<32 + 1, -1, -2, -many - 1, -huge, -huge - 1} {
		if k >= 0 && k < many {
			continue
		}
		if got, err := posts.Item(table, k); err != api.ErrArg || len(got) != 0 {
			t.Fatalf("Item(%v, %d) = %v %d of %d", table, k, got, err, many)
		}
	}
}

// P7.1: all possible choices, in their order, and none beyond them.
func TestItem(t *testing.T) {
	for _, table := range someTables() {
		if len(table) > 5 {
			continue
		}
		many := 0
		for _, choice := range allChoices(len(table)) {
			if isPossible(table, choice) {
				wantItem(t, table, many, choice)
				many++
			}
		}
		wantNoItem(t, table, many)
	}
}

// placeOf counts the possible choices before one, by the permanents of what is left of the table.
func placeOf(table [][]int, choice []int) int {
	place, rest := 0, slices.Clone(choice)
	for len(rest) > 0 {
		for column := range rest[0] {
			if table[0][column] > 0 {
				place += choicesOf(minor(table, 0, column))
			}
		}
		table = minor(table, 0, rest[0])
		gone := rest[0]
		rest = rest[1:]
		for i := range rest {
			if rest[i] > gone {
				rest[i]--
			}
		}
	}
	return place
}

// P7.1: items of greater tables have the right number of others before them.
func TestPlacesOfItems(t *testing.T) {
	for _, table := range slices.Concat(namedTables(), randomTables()) {
		if len(table) < 6 {
			continue
		}
		many := choicesOf(table)
		for _, k := range []int{0, 1, many / 3, many / 2, many - 2, many - 1} {
			if k < 0 || k >= many {
				continue
			}
			got, err := posts.Item(table, k)
			if err != api.OK || !isPossible(table, got) || placeOf(table, got) != k {
				t.Fatalf("Item(%v, %d) = %v %d", table, k, got, err)
			}
		}
		wantNoItem(t, table, many)
	}
}

// P7.1: known items. The numbers count only as positive ones.
func TestKnownItems(t *testing.T) {
	wantItem(t, nil, 0, nil)
	wantItem(t, [][]int{}, 0, nil)
	wantNoItem(t, nil, 1)
	wantItem(t, [][]int{{9}}, 0, []int{0})
	wantNoItem(t, [][]int{{9}}, 1)
	wantNoItem(t, [][]int{{0}}, 0)
	wantItem(t, [][]int{{1, 1}, {1, 1}}, 0, []int{0, 1})
	wantItem(t, [][]int{{9, 9}, {9, 9}}, 1, []int{1, 0})
	wantItem(t, derangements(3), 0, []int{1, 2, 0})
	wantItem(t, derangements(3), 1, []int{2, 0, 1})
	wantNoItem(t, derangements(3), 2)
	wantItem(t, full(10, 9), 0, []int{0, 1, 2, 3, 4, 5, 6, 7, 8, 9})
	wantItem(t, full(10, 9), 3628799, []int{9, 8, 7, 6, 5, 4, 3, 2, 1, 0})
	wantItem(t, full(10, 2), 362880, []int{1, 0, 2, 3, 4, 5, 6, 7, 8, 9})
	wantNoItem(t, full(10, 9), 3628800)
}
