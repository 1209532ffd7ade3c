package seals

import (
	"slices"

	"lampbox/api"
)

// letters is the number of letters that there are.
const letters = 4

// counts has a number of seals of each letter.
type counts [letters]int

func (c counts) plus(d counts) counts {
	for i := range c {
		c[i] += d[i]
	}
	return c
}

func (c counts) minus(d counts) counts {
	for i := range c {
		c[i] -= d[i]
	}
	return c
}

// half returns half of each number, rounded down.
func (c counts) half() counts {
	for i := range c {
		c[i] /= 2
	}
	return c
}

// tally has for each position of a chain, and for its end, the counts of all seals before it.
type tally struct {
	length int
	before [api.MaxSeals + 1]counts
}

// readChain counts the seals of a chain, and reports whether the text is one.
func readChain(text string) (tally, bool) {
	if len(text) > api.MaxSeals {
		return tally{}, false
	}
	t := tally{length: len(text)}
	var sum counts
	for i := range len(text) {
		if text[i] < 'a' || text[i] >= 'a'+letters {
			return tally{}, false
		}
		sum[text[i]-'a']++
		t.before[i+1] = sum
	}
	return t, true
}

// readEven is readChain for even chains only.
func readEven(text string) (tally, bool) {
	t, ok := readChain(text)
	half := t.all().half()
	return t, ok && half.plus(half) == t.all()
}

func (t tally) all() counts {
	return t.before[t.length]
}

// apart counts the seals of the pieces that begin at the first cut, at the third one, and so on.
// These are the pieces of one carrier: of carrier 1 in a chain, of carrier 0 in a ring.
func (t tally) apart(cuts []int) counts {
	var sum counts
	for ends := range slices.Chunk(cuts, 2) {
		end := t.length
		if len(ends) == 2 {
			end = ends[1]
		}
		sum = sum.plus(t.before[end]).minus(t.before[ends[0]])
	}
	return sum
}

// isFair reports whether cuts of an even chain, or of an even ring, are fair.
func (t tally) isFair(cuts []int) bool {
	return t.apart(cuts) == t.all().half()
}

// fewest returns the lexicographically smallest one of the shortest fair lists of cuts from the position first on,
// of which the numbers of cuts are multiples of step.
func (t tally) fewest(first, step int) []int {
	// One cut for each letter is always enough, so no longer list is needed.
	for many := 0; many <= letters; many += step {
		for cuts := range lists(first, t.length, many) {
			if t.isFair(cuts) {
				return slices.Clone(cuts)
			}
		}
	}
	return nil
}

// halves returns for each length the number of substrings with half of all seals of each letter.
func (t tally) halves() []int {
	many := make([]int, t.length+1)
	// A longer beginning of the chain has other counts, so each counts belong to one position at most.
	position := map[counts]int{}
	for end, sum := range t.before[:t.length+1] {
		position[sum] = end
		if start, ok := position[sum.minus(t.all().half())]; ok {
			many[end-start]++
		}
	}
	return many
}
