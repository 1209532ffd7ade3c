package round

import "slices"

// part is the part of a tour that goes from a stop through all open stops back to 0.
type part struct {
	at   int
	open stops
}

// rest is the shortest one of the ways that a part of a tour can take: the first stop on it, and its length.
type rest struct {
	next, length int
}

// rests returns the shortest ways of all parts. Of several next stops the smallest one is taken.
func (m miles) rests() map[part]rest {
	rests := map[part]rest{}
	// The sets without 0 are the even numbers, and each one comes after its subsets.
	for open := stops(0); open <= firstStops(m.n); open += 2 {
		for at := range m.n {
			if open.has(at) {
				continue
			}
			p := part{at, open}
			rests[p] = m.shortest(p, rests)
		}
	}
	return rests
}

// shortest returns the shortest way of a part, from those of the parts with fewer open stops.
func (m miles) shortest(p part, rests map[part]rest) rest {
	if p.open == 0 {
		return rest{0, m.at[p.at][0]}
	}
	next, length := p.open.least(func(next int) int {
		return m.at[p.at][next] + rests[part{next, p.open.without(next)}].length
	})
	return rest{next, length}
}

// best returns the lexicographically smallest one of the shortest tours.
func (m miles) best() []int {
	rests := m.rests()
	tour := []int{0}
	p := part{0, firstStops(m.n).without(0)}
	for p.open != 0 {
		next := rests[p].next
		tour = append(tour, next)
		p = part{next, p.open.without(next)}
	}
	return tour
}

// nearest returns the tour that always goes to the nearest open stop, the smallest one of several.
func (m miles) nearest() []int {
	tour := []int{0}
	at := 0
	for open := firstStops(m.n).without(0); open != 0; open = open.without(at) {
		from := m.at[at]
		at, _ = open.least(func(next int) int { return from[next] })
		tour = append(tour, at)
	}
	return tour
}

// improve reverses parts of the tour that it is given as long as this makes it shorter, and returns it.
func (m miles) improve(tour []int) []int {
	for {
		i, j, ok := m.shortening(tour)
		if !ok {
			return tour
		}
		slices.Reverse(tour[i : j+1])
	}
}

// shortening returns the first positions between which reversing makes a tour shorter, and reports whether there are such.
func (m miles) shortening(tour []int) (int, int, bool) {
	for i := 1; i < m.n; i++ {
		for j := i + 1; j < m.n; j++ {
			before, first, last, after := tour[i-1], tour[i], tour[j], tour[(j+1)%m.n]
			if m.at[before][last]+m.at[first][after] < m.at[before][first]+m.at[last][after] {
				return i, j, true
			}
		}
	}
	return 0, 0, false
}
