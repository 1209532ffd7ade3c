package posts_test

import (
	"math/big"
	"math/rand/v2"
	"slices"
	"testing"

	"lampbox/api"
	"lampbox/posts"
)

// P7.5: no table has both a possible choice and a block; the permanent is positive exactly if there is a choice.
func TestChoiceOrBlock(t *testing.T) {
	for _, table := range someTables() {
		choice, block := choose(t, table)
		positive := permanent(t, table) > 0
		if possible := len(block) == 0; possible != positive {
			t.Fatalf("%v: permanent %d, choice %v, block %v", table, permanent(t, table), choice, block)
		}
		_, err := posts.Item(table, 0)
		if positive != (err == api.OK) {
			t.Fatalf("%v: Item has the error %d", table, err)
		}
		if pairs := most(t, table); positive != (len(pairs) == len(table)) {
			t.Fatalf("%v: the pairs %v", table, pairs)
		}
	}
}

// P7.5: of small tables, CheckChoice takes no choice if it takes a block.
func TestNeverBoth(t *testing.T) {
	for _, table := range slices.Concat(allTables(2, 1), allTables(3, 1)) {
		choices, blocks := 0, 0
		for _, list := range lists(len(table), len(table)) {
			if posts.CheckChoice(table, list, nil) == api.OK {
				choices++
			}
			if posts.CheckChoice(table, nil, list) == api.OK {
				blocks++
			}
		}
		if (choices == 0) == (blocks == 0) {
			t.Fatalf("%v: %d choices, %d blocks", table, choices, blocks)
		}
	}
}

// someLines are all rows, or columns, of a small table, and the first, a middle, and the last one of a greater one.
func someLines(n int) []int {
	if n > 6 {
		return []int{0, n / 2, n - 1}
	}
	var all []int
	for i := range n {
		all = append(all, i)
	}
	return all
}

// P7.5: the permanent is the sum over a row, or a column, of the numbers times the permanents without these.
func TestExpansions(t *testing.T) {
	for _, table := range slices.Concat(namedTables(), randomTables()) {
		want := permanent(t, table)
		for _, i := range someLines(len(table)) {
			row, column := 0, 0
			for j := range table {
				rest, err := posts.Without(table, i, j)
				wantErr(t, table, err, api.OK)
				row += table[i][j] * permanent(t, rest)
				rest, err = posts.Without(table, j, i)
				wantErr(t, table, err, api.OK)
				column += table[j][i] * permanent(t, rest)
			}
			if row != want || column != want {
				t.Fatalf("%v: permanent %d, by row %d, by column %d", table, want, row, column)
			}
		}
	}
}

// P7.5: exchanging rows with columns, or two rows, changes nothing.
func TestExchanges(t *testing.T) {
	for _, table := range someTables() {
		want := permanent(t, table)
		if got := permanent(t, transposed(table)); got != want {
			t.Fatalf("%v: permanent %d, transposed %d", table, want, got)
		}
		for _, i := range someLines(len(table)) {
			for _, j := range someLines(i) {
				other := copied(table)
				other[i], other[j] = other[j], other[i]
				if got := permanent(t, other); got != want {
					t.Fatalf("%v: permanent %d, with other rows %d", table, want, got)
				}
			}
		}
	}
}

// P7.5: adding a row to another one adds the permanent of the table with two equal rows.
func TestAddedRows(t *testing.T) {
	r := rand.New(rand.NewPCG(7, 5))
	for n := 2; n <= 10; n++ {
		for range 60 {
			table := randomTable(r, n, 3+r.IntN(8), 4)
			lines := r.Perm(n)
			from, to := lines[0], lines[1]
			added, equal := copied(table), copied(table)
			for column := range n {
				added[to][column] += table[from][column]
				equal[to][column] = table[from][column]
			}
			if got, want := permanent(t, added), permanent(t, table)+permanent(t, equal); got != want {
				t.Fatalf("%v: row %d added to %d: permanent %d, want %d", table, from, to, got, want)
			}
		}
	}
}

// P7.5: the bound of the permanent of a level table; a positive level has a possible choice.
func TestLevelTables(t *testing.T) {
	tables, _ := levelTables()
	for n := range 11 {
		tables = append(tables, full(n, 1), full(n, 9))
	}
	for _, table := range tables {
		level, ok, err := posts.Level(table)
		if err != api.OK || !ok {
			t.Fatalf("Level(%v) = %d %t %d", table, level, ok, err)
		}
		n := len(table)
		power := func(x int) *big.Int { return new(big.Int).Exp(big.NewInt(int64(x)), big.NewInt(int64(n)), nil) }
		left := new(big.Int).Mul(big.NewInt(int64(permanent(t, table))), power(n))
		right := new(big.Int).Mul(big.NewInt(int64(factorial(n))), power(level))
		if left.Cmp(right) < 0 {
			t.Fatalf("%v: the permanent %d is too small", table, permanent(t, table))
		}
		if _, block := choose(t, table); level > 0 && len(block) > 0 {
			t.Fatalf("%v: the block %v at the level %d", table, block, level)
		}
	}
}
