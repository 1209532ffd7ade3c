package posts

import (
	"slices"

	"lampbox/api"
)

// none stands for the row of a column that is not joined to one.
const none = -1

// joined has as many pairs of rows and columns with positive numbers as possible, no two with the same row or column.
type joined struct {
	n   int
	row [api.MaxPosts]int // the row of each column, or none
	// stuck has the columns that searches reached from rows for which they found no column. All of them are joined.
	stuck lines
}

// join joins rows to columns, one row after the other. A row takes a column of another one if this one finds another column.
func (g grid) join() joined {
	j := joined{n: g.n}
	for column := range j.row {
		j.row[column] = none
	}
	var reached lines
	var find func(row int) bool
	find = func(row int) bool {
		for column := range g.n {
			if g.at[row][column] == 0 || reached.has(column) {
				continue
			}
			reached = reached.with(column)
			if j.row[column] == none || find(j.row[column]) {
				j.row[column] = row
				return true
			}
		}
		return false
	}
	for row := range g.n {
		// No way leads out of the stuck columns, so they need not be searched again, and keep their rows.
		reached = j.stuck
		if !find(row) {
			j.stuck = reached
		}
	}
	return j
}

// short returns the rows without a column and those of the stuck columns: they have positive numbers in these columns only,
// and are more than these, as many more as there are rows without a column.
func (j joined) short() lines {
	rows := firstLines(j.n)
	for column, row := range j.row {
		if row != none && !j.stuck.has(column) {
			rows = rows.without(row)
		}
	}
	return rows
}

// pairs lists the pairs in ascending order of the rows.
func (j joined) pairs() [][2]int {
	var pairs [][2]int
	for row := range j.n {
		column := slices.Index(j.row[:], row)
		if column >= 0 {
			pairs = append(pairs, [2]int{row, column})
		}
	}
	return pairs
}
