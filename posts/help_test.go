package posts_test

import (
	"math/rand/v2"
	"slices"
	"testing"

	"lampbox/api"
	"lampbox/posts"
)

const huge = 1<<63 - 1

// tableOf builds a table of n rows from its numbers.
func tableOf(n int, number func(row, column int) int) [][]int {
	table := make([][]int, n)
	for row := range table {
		table[row] = make([]int, n)
		for column := range table[row] {
			table[row][column] = number(row, column)
		}
	}
	return table
}

func full(n, number int) [][]int {
	return tableOf(n, func(int, int) int { return number })
}

// diagonal has positive numbers at equal rows and columns only.
func diagonal(n, number int) [][]int {
	return tableOf(n, func(row, column int) int {
		if row == column {
			return number
		}
		return 0
	})
}

// triangle has no positive number below the diagonal, and just one possible choice.
func triangle(n int) [][]int {
	return tableOf(n, func(row, column int) int {
		if row <= column {
			return 1 + (row+column)%9
		}
		return 0
	})
}

// narrow has positive numbers in the last width columns of the last height rows, and in all columns of the other rows.
func narrow(n, height, width int) [][]int {
	return tableOf(n, func(row, column int) int {
		if row < n-height || column >= n-width {
			return 1 + (2*row+column)%9
		}
		return 0
	})
}

// cycle has two positive numbers in each row and column, and two possible choices if n is at least 2.
func cycle(n int) [][]int {
	return tableOf(n, func(row, column int) int {
		if row == column || column == (row+1)%n {
			return 1 + row%3
		}
		return 0
	})
}

// derangements has 0 on the diagonal.
func derangements(n int) [][]int {
	return tableOf(n, func(row, column int) int {
		if row == column {
			return 0
		}
		return 1
	})
}

func copied(table [][]int) [][]int {
	other := make([][]int, len(table))
	for row := range table {
		other[row] = slices.Clone(table[row])
	}
	return other
}

func transposed(table [][]int) [][]int {
	return tableOf(len(table), func(row, column int) int { return table[column][row] })
}

// randomTable has about share of ten positive numbers, up to most.
func randomTable(r *rand.Rand, n, share, most int) [][]int {
	return tableOf(n, func(int, int) int {
		if r.IntN(10) < share {
			return 1 + r.IntN(most)
		}
		return 0
	})
}

// allTables are all tables of n rows with numbers up to most.
func allTables(n, most int) [][][]int {
	all := [][][]int{full(n, 0)}
	for row := range n {
		for column := range n {
			for _, table := range slices.Clone(all) {
				for number := 1; number <= most; number++ {
					other := copied(table)
					other[row][column] = number
					all = append(all, other)
				}
			}
		}
	}
	return all
}

// shortTables are all tables of few rows with few numbers.
func shortTables() [][][]int {
	return slices.Concat([][][]int{nil, {}}, allTables(1, 9), allTables(2, 3), allTables(3, 1))
}

// namedTables are tables of all numbers of rows whose choices are known, or that have blocks at some place.
func namedTables() [][][]int {
	var all [][][]int
	for n := range api.MaxPosts + 1 {
		for _, number := range []int{0, 1, 5, 9} {
			all = append(all, full(n, number), diagonal(n, number))
		}
		all = append(all, triangle(n), transposed(triangle(n)), cycle(n), derangements(n))
		for height := 1; height <= n; height++ {
			for _, width := range []int{height - 1, height} {
				table := narrow(n, height, width)
				reversed := copied(table)
				slices.Reverse(reversed)
				all = append(all, table, reversed, transposed(table))
			}
		}
	}
	return all
}

// randomTables are tables of all numbers of rows, sparse and dense ones.
func randomTables() [][][]int {
	r := rand.New(rand.NewPCG(7, 1))
	var all [][][]int
	for n := 1; n <= api.MaxPosts; n++ {
		for share := 1; share <= 10; share++ {
			for _, most := range []int{1, 2, 9, 9} {
				all = append(all, randomTable(r, n, share, most))
			}
		}
		for range 20 {
			all = append(all, randomTable(r, n, 2, 9))
		}
	}
	return all
}

func someTables() [][][]int {
	return slices.Concat(shortTables(), namedTables(), randomTables())
}

// addTo adds a choice with a weight to a table, if no number becomes greater than 9 by it.
func addTo(table [][]int, choice []int, weight int) bool {
	for row, column := range choice {
		if table[row][column]+weight > api.MaxEntry {
			return false
		}
	}
	for row, column := range choice {
		table[row][column] += weight
	}
	return true
}

// levelTables are level tables of all numbers of rows, with layers of each.
func levelTables() ([][][]int, [][]api.Layer) {
	r := rand.New(rand.NewPCG(7, 2))
	var tables [][][]int
	var layers [][]api.Layer
	for n := range api.MaxPosts + 1 {
		for _, times := range []int{0, 1, 2, 3, 5, 8, 13, 30, 90, 300} {
			for _, most := range []int{1, 3, 9} {
				table := full(n, 0)
				var has []api.Layer
				for range times {
					layer := api.Layer{Weight: 1 + r.IntN(most), Choice: r.Perm(n)}
					if len(has) < api.MaxLayers && addTo(table, layer.Choice, layer.Weight) {
						has = append(has, layer)
					}
				}
				tables = append(tables, table)
				layers = append(layers, has)
			}
		}
	}
	return tables, layers
}

// allChoices are all lists of n different columns, in lexicographic order.
func allChoices(n int) [][]int {
	var all [][]int
	var further func(begun []int)
	further = func(begun []int) {
		if len(begun) == n {
			all = append(all, slices.Clone(begun))
			return
		}
		for column := range n {
			if !slices.Contains(begun, column) {
				further(slices.Concat(begun, []int{column}))
			}
		}
	}
	further(nil)
	return all
}

// permanentByTerms adds the products of all lists of n different columns.
func permanentByTerms(table [][]int) int {
	sum := 0
	for _, choice := range allChoices(len(table)) {
		product := 1
		for row, column := range choice {
			product *= table[row][column]
		}
		sum += product
	}
	return sum
}

// permanentBySums is Ryser's formula. It is exact modulo 2^64, and so is the result, which is smaller.
func permanentBySums(table [][]int) int {
	n := len(table)
	if n == 0 {
		return 1
	}
	sum := 0
	for some := range 1 << n {
		product := 1
		for column := range n {
			if some>>column&1 == 0 {
				product = -product
			}
		}
		for _, numbers := range table {
			row := 0
			for column, number := range numbers {
				if some>>column&1 == 1 {
					row += number
				}
			}
			product *= row
		}
		sum += product
	}
	return sum
}

// choicesOf is the number of possible choices.
func choicesOf(table [][]int) int {
	return permanentBySums(tableOf(len(table), func(row, column int) int { return min(table[row][column], 1) }))
}

// minor is the table without a row and a column.
func minor(table [][]int, row, column int) [][]int {
	return tableOf(len(table)-1, func(i, j int) int {
		if i >= row {
			i++
		}
		if j >= column {
			j++
		}
		return table[i][j]
	})
}

// isPossible holds the terms: n different columns, each with a positive number at its row.
func isPossible(table [][]int, choice []int) bool {
	if len(choice) != len(table) {
		return false
	}
	for row, column := range choice {
		if column < 0 || column >= len(table) || table[row][column] == 0 || slices.Contains(choice[:row], column) {
			return false
		}
	}
	return true
}

// isBlock holds the terms: ascending rows with positive numbers in fewer columns.
func isBlock(table [][]int, block []int) bool {
	columns := map[int]bool{}
	for i, row := range block {
		if row < 0 || row >= len(table) || i > 0 && row <= block[i-1] {
			return false
		}
		for column, number := range table[row] {
			if number > 0 {
				columns[column] = true
			}
		}
	}
	return len(columns) < len(block)
}

func factorial(n int) int {
	product := 1
	for i := 2; i <= n; i++ {
		product *= i
	}
	return product
}

func permanent(t *testing.T, table [][]int) int {
	t.Helper()
	got, err := posts.Permanent(table)
	if err != api.OK {
		t.Fatalf("Permanent(%v): error %d", table, err)
	}
	return got
}

// choose returns a choice or a block, and fails if not just one of both is right.
func choose(t *testing.T, table [][]int) ([]int, []int) {
	t.Helper()
	choice, block, err := posts.Choose(table)
	possible := len(block) == 0 && isPossible(table, choice)
	blocked := len(choice) == 0 && isBlock(table, block)
	if err != api.OK || possible == blocked {
		t.Fatalf("Choose(%v) = %v %v %d", table, choice, block, err)
	}
	return choice, block
}

func wantErr(t *testing.T, what any, got, want api.Errno) {
	t.Helper()
	if got != want {
		t.Fatalf("%v: error %d, want %d", what, got, want)
	}
}
