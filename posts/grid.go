package posts

import (
	"slices"

	"lampbox/api"
)

// grid is a table of n rows. The places beyond its rows and columns have 0.
type grid struct {
	n  int
	at [api.MaxPosts][api.MaxPosts]int
}

// readTable returns the grid with the rows of a table, and reports whether it is one.
func readTable(table [][]int) (grid, bool) {
	g := grid{n: len(table)}
	if g.n > api.MaxPosts {
		return grid{}, false
	}
	for row, numbers := range table {
		if len(numbers) != g.n {
			return grid{}, false
		}
		for column, number := range numbers {
			if number < 0 || number > api.MaxEntry {
				return grid{}, false
			}
			g.at[row][column] = number
		}
	}
	return g, true
}

// level returns the sum of each row and of each column, and reports whether all of them are equal.
func (g grid) level() (int, bool) {
	var rows, columns [api.MaxPosts]int
	for row, numbers := range g.at {
		for column, number := range numbers {
			rows[row] += number
			columns[column] += number
		}
	}
	for i := range g.n {
		if rows[i] != rows[0] || columns[i] != rows[0] {
			return 0, false
		}
	}
	return rows[0], true
}

// without returns the table without a row and a column.
func (g grid) without(row, column int) [][]int {
	var table [][]int
	for i, numbers := range g.at[:g.n] {
		if i != row {
			table = append(table, slices.Concat(numbers[:column], numbers[column+1:g.n]))
		}
	}
	return table
}

// ones returns the grid with 1 instead of each positive number: its permanent is the number of possible choices.
func (g grid) ones() grid {
	for row := range g.n {
		for column := range g.n {
			g.at[row][column] = min(g.at[row][column], 1)
		}
	}
	return g
}

// positive returns the columns in which a row has positive numbers.
func (g grid) positive(row int) lines {
	var columns lines
	for column, number := range g.at[row] {
		if number > 0 {
			columns = columns.with(column)
		}
	}
	return columns
}

// isChoice reports whether a list has n different columns.
func (g grid) isChoice(list []int) bool {
	var columns lines
	for _, column := range list {
		if column < 0 || column >= g.n || columns.has(column) {
			return false
		}
		columns = columns.with(column)
	}
	return len(list) == g.n
}

// isPossible reports whether a list is a possible choice.
func (g grid) isPossible(list []int) bool {
	if !g.isChoice(list) {
		return false
	}
	for row, column := range list {
		if g.at[row][column] == 0 {
			return false
		}
	}
	return true
}

// isBlock reports whether a list is a block.
func (g grid) isBlock(list []int) bool {
	var columns lines
	last := -1
	for _, row := range list {
		if row <= last || row >= g.n {
			return false
		}
		columns |= g.positive(row)
		last = row
	}
	// The empty list has no columns, and not fewer than rows.
	return columns.size() < len(list)
}
