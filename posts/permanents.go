package posts

// permanents returns for each set of columns the permanent of it and as many of the last rows.
func (g grid) permanents() map[lines]int {
	sums := map[lines]int{0: 1}
	for columns := lines(1); columns <= firstLines(g.n); columns++ {
		row := g.n - columns.size()
		sum := 0
		for column, number := range g.at[row] {
			if columns.has(column) {
				sum += number * sums[columns.without(column)]
			}
		}
		sums[columns] = sum
	}
	return sums
}

// item returns the possible choice that has k possible choices before it, and reports whether there is one.
func (g grid) item(k int) ([]int, bool) {
	many := g.ones().permanents()
	free := firstLines(g.n)
	if k >= many[free] {
		return nil, false
	}
	var choice []int
search:
	for row := range g.n {
		for column := range g.n {
			if !free.has(column) || g.at[row][column] == 0 {
				continue
			}
			rest := free.without(column)
			if k < many[rest] {
				choice = append(choice, column)
				free = rest
				continue search
			}
			k -= many[rest]
		}
	}
	return choice, true
}
