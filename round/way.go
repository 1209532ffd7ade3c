package round

import "lampbox/api"

// way returns the lexicographically smallest one of the shortest ways from one stop to another one.
func (m miles) way(from, to int) []int {
	way := []int{from}
	open := firstStops(m.n)
	at := from
	for at != to {
		// Distances of 0 can lead back, so each step counts only what is left by stops that the way has not visited.
		open = open.without(at)
		left := m.leftTo(to, open)
		here := m.at[at]
		at, _ = open.least(func(next int) int { return here[next] + left[next] })
		way = append(way, at)
	}
	return way
}

// leftTo returns the length of the shortest way from each open stop to one of them that visits open stops only.
func (m miles) leftTo(to int, open stops) [api.MaxStops]int {
	left := m.at[to]
	list := open.list()
	// No shortest way has more stops than are open.
	for range list {
		for _, stop := range list {
			for _, next := range list {
				left[stop] = min(left[stop], m.at[stop][next]+left[next])
			}
		}
	}
	return left
}
