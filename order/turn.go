package order

// second returns the second order. The list that is divided is the beginning of what it returns.
func (p permutation) second() permutation {
	for i := range p.length() - 1 {
		lastToBeginning(p[:i+1], p[i+1])
	}
	return p
}

// first undoes the steps of second, the last one first.
func (p permutation) first() permutation {
	n := p.length()
	for done := range n - 1 {
		i := n - 1 - done
		beginningToLast(p[:i], p[i])
	}
	return p
}

// lastToBeginning divides a list into parts that end where its last number is on the same side of a further number,
// and moves the last number of each part to its beginning.
func lastToBeginning(list []int, further int) {
	greater := list[len(list)-1] > further
	begin := 0
	for at, number := range list {
		if (number > further) == greater {
			copy(list[begin+1:at+1], list[begin:at])
			list[begin] = number
			begin = at + 1
		}
	}
}

// beginningToLast undoes lastToBeginning: the parts begin where the list's first number is on the same side,
// because it was the last one of its part.
func beginningToLast(list []int, further int) {
	greater := list[0] > further
	begin := 0
	for at := range len(list) {
		if at+1 == len(list) || (list[at+1] > further) == greater {
			number := list[begin]
			copy(list[begin:at], list[begin+1:at+1])
			list[at] = number
			begin = at + 1
		}
	}
}

// written returns the written cycles.
func (p permutation) written() permutation {
	var q permutation
	at := 0
	for i := range p.length() {
		if p.isGreatest(i) {
			at += copy(q[at:], p.cycle(i+1))
		}
	}
	return q
}

// cycled returns the order of which p is the written cycles: each of them begins with a record.
func (p permutation) cycled() permutation {
	var q permutation
	greatest := 0
	for i := range p.length() {
		if p.isRecord(i) {
			greatest = p[i]
		} else {
			q[p[i-1]-1] = p[i]
		}
		// The cycle is closed here, until a further number of it follows.
		q[p[i]-1] = greatest
	}
	return q
}
