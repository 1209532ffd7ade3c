package relay

// spread returns a complete spread with the smallest number of rounds: each house calls its branches at once, the slowest one first.
func (t tree) spread(from int) [][][2]int {
	rounds := make([][][2]int, t.time(from, from))
	var visit func(house, before, round int)
	visit = func(house, before, round int) {
		for calls, b := range t.branches(house, before) {
			at := round + calls
			rounds[at] = append(rounds[at], [2]int{house, b.house})
			visit(b.house, house, at+1)
		}
	}
	visit(from, from, 0)
	return rounds
}

// isComplete reports whether rounds are a complete spread.
func (t tree) isComplete(from int, rounds [][][2]int) bool {
	knowing := set(0).with(from)
	for _, round := range rounds {
		called, ok := t.called(round, knowing)
		if !ok {
			return false
		}
		knowing |= called
	}
	return knowing == first(t.n)
}

// called returns the houses that are called in a round, and reports whether it is one, where the knowing houses know the news before it.
func (t tree) called(round [][2]int, knowing set) (set, bool) {
	var busy, called set
	for _, pair := range round {
		caller, house := pair[0], pair[1]
		if !t.isHouse(caller) || !t.isHouse(house) || !t.neighbors[caller].has(house) {
			return 0, false
		}
		if !knowing.has(caller) || knowing.has(house) || busy.has(caller) || busy.has(house) {
			return 0, false
		}
		busy = busy.with(caller).with(house)
		called = called.with(house)
	}
	return called, true
}
