package relay

import "lampbox/api"

// knowledge has for each person the set of those whose things it knows. That of further people is empty.
type knowledge [api.MaxPeople]set

func arePeople(n int) bool {
	return n >= 1 && n <= api.MaxPeople
}

// areCalls reports whether there are n people, and the list is calls among them.
func areCalls(n int, calls [][2]int) bool {
	if !arePeople(n) || len(calls) > api.MaxCalls {
		return false
	}
	for _, call := range calls {
		one, other := call[0], call[1]
		if one < 0 || one >= n || other < 0 || other >= n || one == other {
			return false
		}
	}
	return true
}

// after returns what n people know after calls.
func after(n int, calls [][2]int) knowledge {
	var k knowledge
	for person := range n {
		k[person] = k[person].with(person)
	}
	for _, call := range calls {
		both := k[call[0]] | k[call[1]]
		k[call[0]], k[call[1]] = both, both
	}
	return k
}

// everything is the knowledge of n people who all know everything.
func everything(n int) knowledge {
	var k knowledge
	for person := range n {
		k[person] = first(n)
	}
	return k
}

func fewest(n int) int {
	switch {
	case n >= 4:
		return 2*n - 4
	case n == 3:
		return 3
	default:
		return n - 1
	}
}

// fewestCalls returns calls that are enough, as few as possible: those from the fifth person on tell 0 their things,
// the first four exchange all in four calls, and 0 tells the others.
func fewestCalls(n int) [][2]int {
	switch n {
	case 1:
		return nil
	case 2:
		return [][2]int{{0, 1}}
	case 3:
		return [][2]int{{0, 1}, {0, 2}, {0, 1}}
	}
	var calls [][2]int
	for person := 4; person < n; person++ {
		calls = append(calls, [2]int{0, person})
	}
	calls = append(calls, [2]int{0, 1}, [2]int{2, 3}, [2]int{0, 2}, [2]int{1, 3})
	for person := 4; person < n; person++ {
		calls = append(calls, [2]int{0, person})
	}
	return calls
}

// meetings returns the pairs of n people in a round, where n is even.
func meetings(n, round int) [][2]int {
	var pairs [][2]int
	for one := range n - 1 {
		// The sum of one and other leaves the remainder of 2 round modulo n - 1.
		other := (2*round - one + n - 1) % (n - 1)
		// n - 1 is odd, so only round itself would meet itself.
		if other == one {
			other = n - 1
		}
		if one < other {
			pairs = append(pairs, [2]int{one, other})
		}
	}
	return pairs
}
