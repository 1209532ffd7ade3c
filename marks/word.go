package marks

import "lampbox/api"

const letters = "abcd"

func isWord(word string) bool {
	if len(word) > api.MaxMarks {
		return false
	}
	for i := range len(word) {
		if word[i] < 'a' || word[i] > 'd' {
			return false
		}
	}
	return true
}

// count returns how often each letter occurs in a word.
func count(word string) [len(letters)]int {
	var many [len(letters)]int
	for i := range len(word) {
		many[word[i]-'a']++
	}
	return many
}

// firstRepetition returns the position of the first part xy of a word with x and y of the same length that are alike,
// and this length.
func firstRepetition(word string, alike func(x, y string) bool) (int, int, api.Errno) {
	if !isWord(word) {
		return 0, 0, api.ErrArg
	}
	for position := range len(word) {
		rest := word[position:]
		for half := 1; 2*half <= len(rest); half++ {
			if alike(rest[:half], rest[half:2*half]) {
				return position, half, api.OK
			}
		}
	}
	return 0, 0, api.ErrNone
}

// hasPeriod reports whether a word has a period that is at most its length.
func hasPeriod(word string, period int) bool {
	return word[period:] == word[:len(word)-period]
}

// smallestPeriod returns the smallest period, of those from a number on, of a word that is not empty.
func smallestPeriod(word string, from int) int {
	for !hasPeriod(word, from) {
		from++
	}
	return from
}

// greatest returns the greatest exponent of all parts of a word, and the position and the length of the first part
// that has it.
func greatest(word string) (api.Frac, int, int) {
	best := api.Frac{Num: 0, Den: 1}
	at, length := 0, 0
	for position := range len(word) {
		period := 1
		for end := position + 1; end <= len(word); end++ {
			part := word[position:end]
			// A period of a part is one of each of its beginnings that is as long as the period, so the smallest one never decreases.
			period = smallestPeriod(part, period)
			if len(part)*best.Den > best.Num*period {
				best = api.Frac{Num: len(part), Den: period}
				at, length = position, len(part)
			}
		}
	}
	return fraction(best.Num, best.Den), at, length
}

// fraction reduces the fraction of two positive numbers.
func fraction(num, den int) api.Frac {
	a, b := num, den
	for b != 0 {
		a, b = b, a%b
	}
	return api.Frac{Num: num / a, Den: den / a}
}
