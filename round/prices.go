package round

import (
	"slices"

	"lampbox/api"
)

// prices has the price of each stop. Those of further stops are 0.
type prices [api.MaxStops]int

// readPrices reads the prices of n stops, and reports whether they are such.
func readPrices(n int, list []int) (prices, bool) {
	if len(list) != n {
		return prices{}, false
	}
	for _, price := range list {
		if price < -api.MaxPrice || price > api.MaxPrice {
			return prices{}, false
		}
	}
	var p prices
	copy(p[:], list)
	return p, true
}

// chosen returns the edges of the bound, for at least three stops.
func (m miles) chosen(p prices) []edge {
	var atZero, others []edge
	for _, e := range m.edges(p) {
		if e.smaller == 0 {
			atZero = append(atZero, e)
		} else {
			others = append(others, e)
		}
	}
	return slices.Concat(tree(others), atZero[:2])
}

// bound returns the bound of prices.
func (m miles) bound(p prices) int {
	if m.n < 3 {
		// For one stop the distance of the next one is 0.
		return 2 * m.at[0][1]
	}
	sum := 0
	for _, e := range m.chosen(p) {
		sum += e.cost
	}
	for _, price := range p {
		sum -= 2 * price
	}
	return sum
}

// step returns the prices after a step: each grows by the number of chosen edges at its stop minus 2.
func (m miles) step(p prices) prices {
	if m.n < 3 {
		return p
	}
	for _, e := range m.chosen(p) {
		p[e.smaller]++
		p[e.greater]++
	}
	for stop := range m.n {
		p[stop] -= 2
	}
	return p
}

// climb returns the first prices with the greatest bound of all that occur in so many steps from prices 0, and this bound.
func (m miles) climb(steps int) (prices, int) {
	var p, highest prices
	greatest := m.bound(p)
	for range steps {
		p = m.step(p)
		if bound := m.bound(p); bound > greatest {
			highest, greatest = p, bound
		}
	}
	return highest, greatest
}
