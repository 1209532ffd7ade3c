package marks

import "iter"

// endsInSquare reports whether some square is the end of a word.
func endsInSquare(word string) bool {
	for half := 1; 2*half <= len(word); half++ {
		end := word[len(word)-2*half:]
		if end[:half] == end[half:] {
			return true
		}
	}
	return false
}

func isSquareFree(word string) bool {
	for end := range len(word) {
		if endsInSquare(word[:end+1]) {
			return false
		}
	}
	return true
}

// squareFree visits the square-free words of n of the first k letters; the lexicographically smaller ones come first.
func squareFree(n, k int) iter.Seq[string] {
	return func(yield func(string) bool) {
		// extend visits those that begin with a square-free word, until yield returns false.
		var extend func(word string) bool
		extend = func(word string) bool {
			if len(word) == n {
				return yield(word)
			}
			for _, letter := range letters[:k] {
				longer := word + string(letter)
				if !endsInSquare(longer) && !extend(longer) {
					return false
				}
			}
			return true
		}
		extend("")
	}
}
