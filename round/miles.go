package round

import "lampbox/api"

// miles are the distances of n stops. The places of further stops have 0.
type miles struct {
	n  int
	at [api.MaxStops][api.MaxStops]int
}

// readDistances reads distances, and reports whether they are such.
func readDistances(distances [][]int) (miles, bool) {
	m := miles{n: len(distances)}
	if m.n < 1 || m.n > api.MaxStops {
		return miles{}, false
	}
	for i, list := range distances {
		if len(list) != m.n {
			return miles{}, false
		}
		copy(m.at[i][:], list)
	}
	if !m.areDistances() {
		return miles{}, false
	}
	return m, true
}

func (m miles) areDistances() bool {
	for i, list := range m.at {
		for j, distance := range list {
			if distance < 0 || distance > api.MaxDistance || distance != m.at[j][i] || i == j && distance != 0 {
				return false
			}
		}
	}
	return true
}

func (m miles) isStop(v int) bool {
	return v >= 0 && v < m.n
}

func (m miles) isTour(list []int) bool {
	if len(list) != m.n || list[0] != 0 {
		return false
	}
	open := firstStops(m.n)
	for _, stop := range list {
		if !m.isStop(stop) || !open.has(stop) {
			return false
		}
		open = open.without(stop)
	}
	return true
}

// along returns the sum of the distances of adjacent stops.
func (m miles) along(list []int) int {
	sum := 0
	for i, stop := range list[1:] {
		sum += m.at[list[i]][stop]
	}
	return sum
}

// length returns the length of a tour.
func (m miles) length(tour []int) int {
	return m.along(tour) + m.at[tour[m.n-1]][0]
}

// shorterDetour returns the first stops i, j, k for which it is shorter to go from i to k by j, and reports whether there are such.
func (m miles) shorterDetour() ([3]int, bool) {
	for i := range m.n {
		for j := range m.n {
			for k := range m.n {
				if m.at[i][k] > m.at[i][j]+m.at[j][k] {
					return [3]int{i, j, k}, true
				}
			}
		}
	}
	return [3]int{}, false
}
