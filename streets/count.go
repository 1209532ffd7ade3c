package streets

import "lampbox/api"

// countSmallest returns the number of smallest spanning trees of a connected net.
// The streets of each weight connect, in all of them, the same parts to the same greater ones;
// how they do it for one weight is independent of how they do it for another one.
func (t net) countSmallest() int {
	count := 1
	before := separate()
	order := t.ordered()
	for len(order) > 0 {
		many := t.equal(order)
		after := before
		for _, i := range order[:many] {
			after.join(t.streets[i].A, t.streets[i].B)
		}
		count *= t.between(order[:many], before, after).determinant()
		before = after
		order = order[many:]
	}
	return count
}

// equal counts the streets at the beginning of a list in order that have the same weight.
func (t net) equal(order []int) int {
	for k, i := range order {
		if t.streets[i].Weight > t.streets[order[0]].Weight {
			return k
		}
	}
	return len(order)
}

// matrix has numbers modulo 2 to the power 64.
type matrix [api.MaxBoxes][api.MaxBoxes]uint64

// between returns a matrix whose determinant is the number of ways to connect the parts before to the parts after
// by as few of the streets as possible (Kirchhoff's theorem).
// A part is named by its smallest vertex. One part before of each part after keeps its name, and is left out;
// rows and columns that are left out are those of the unit matrix. (A street inside a part before adds nothing.)
func (t net) between(streets []int, before, after parts) matrix {
	var m matrix
	for v := range m {
		if before.first[v] != v || after.first[v] == v {
			m[v][v] = 1
		}
	}
	for _, i := range streets {
		a, b := before.first[t.streets[i].A], before.first[t.streets[i].B]
		keptA, keptB := after.first[a] == a, after.first[b] == b
		if !keptA {
			m[a][a]++
		}
		if !keptB {
			m[b][b]++
		}
		if !keptA && !keptB {
			m[a][b]--
			m[b][a]--
		}
	}
	return m
}

// determinant returns the determinant of a matrix for which it is from 0 to 2^63 - 1.
// Rows are only exchanged, and multiples of them subtracted, which is exact modulo 2 to the power 64, too.
func (m matrix) determinant() int {
	product := uint64(1)
	for i := range m {
		for j := i + 1; j < len(m); j++ {
			// As in Euclid's algorithm, the lower one of both numbers in the column i becomes 0.
			for m[j][i] != 0 {
				times := m[i][i] / m[j][i]
				for k := range m {
					m[i][k] -= times * m[j][k]
				}
				m[i], m[j] = m[j], m[i]
				product = -product
			}
		}
		product *= m[i][i]
	}
	return int(product)
}
