package seals_test

import (
	"math/rand/v2"
	"slices"
	"strings"
	"testing"

	"lampbox/api"
)

const huge = 1<<63 - 1

func wantErr(t *testing.T, what string, got, want api.Errno) {
	t.Helper()
	if got != want {
		t.Fatalf("%s: error %d, want %d", what, got, want)
	}
}

// strings4 are all strings of a length with the letters a to d.
func strings4(length int) []string {
	all := []string{""}
	for range length {
		var longer []string
		for _, s := range all {
			longer = append(longer, s+"a", s+"b", s+"c", s+"d")
		}
		all = longer
	}
	return all
}

func even(chain string) bool {
	for _, letter := range "abcd" {
		if strings.Count(chain, string(letter))%2 != 0 {
			return false
		}
	}
	return true
}

func kinds(chain string) int {
	many := 0
	for _, letter := range "abcd" {
		if strings.ContainsRune(chain, letter) {
			many++
		}
	}
	return many
}

func shuffled(r *rand.Rand, chain string) string {
	seals := []byte(chain)
	r.Shuffle(len(seals), func(i, k int) { seals[i], seals[k] = seals[k], seals[i] })
	return string(seals)
}

// randomChain is an even chain of an even length with some of the letters.
func randomChain(r *rand.Rand, length int) string {
	chain := ""
	letters := "abcd"[:1+r.IntN(4)]
	for len(chain) < length {
		i := r.IntN(len(letters))
		chain += strings.Repeat(letters[i:i+1], 2)
	}
	return shuffled(r, chain)
}

// shortChains are all even chains of up to 6 seals, and of those with 8 seals the ones that begin with an a.
func shortChains() []string {
	var all []string
	for _, length := range []int{0, 2, 4, 6} {
		all = append(all, strings4(length)...)
	}
	for _, s := range strings4(7) {
		all = append(all, "a"+s)
	}
	return slices.DeleteFunc(all, func(s string) bool { return !even(s) })
}

// longChains are even chains of 10 to 24 seals: random ones, and ones with all seals of each letter together.
func longChains() []string {
	r := rand.New(rand.NewPCG(4, 4))
	all := []string{
		strings.Repeat("a", 24), strings.Repeat("ab", 12), strings.Repeat("abcd", 6), strings.Repeat("abc", 8),
		"aaaaaabbbbbbccccccdddddd", "ddaaaaaaaaaaaaaaccccccbb", "aabbccddaabbccddaabbccdd", "ddddddddddddddddddddabab",
		"cccccccccccdddddddddddcd", "abcdddccbbaaabcdddccbbaa",
	}
	for length := 10; length <= api.MaxSeals; length += 2 {
		for range 12 {
			all = append(all, randomChain(r, length))
		}
	}
	return all
}

// together are the chains of 1 to 4 kinds in which all seals of each letter stand together.
func together() []string {
	var all []string
	for _, letters := range []string{"a", "d", "ab", "ca", "bd", "abc", "dba", "abcd", "dcba", "bdac"} {
		for _, many := range [][]int{{2, 2, 2, 2}, {6, 6, 6, 6}, {2, 4, 6, 8}, {10, 2, 2, 10}, {4, 12, 2, 4}} {
			chain := ""
			for i := range letters {
				chain += strings.Repeat(letters[i:i+1], many[i])
			}
			all = append(all, chain)
		}
	}
	return all
}

// share gives out the seals one by one, and returns what each carrier gets: at each cut the carrier changes.
func share(chain string, cuts []int) [2]string {
	var shares [2]string
	carrier := 0
	for i := range len(chain) {
		if i > 0 && slices.Contains(cuts, i) {
			carrier = 1 - carrier
		}
		shares[carrier] += chain[i : i+1]
	}
	return shares
}

// shareRing begins at the first cut, with carrier 0, and goes once around the ring.
func shareRing(chain string, cuts []int) [2]string {
	if len(cuts) == 0 {
		return [2]string{chain, ""}
	}
	moved := make([]int, len(cuts))
	for i, at := range cuts {
		moved[i] = at - cuts[0]
	}
	return share(chain[cuts[0]:]+chain[:cuts[0]], moved)
}

func sameLetters(shares [2]string) bool {
	for _, letter := range "abcd" {
		if strings.Count(shares[0], string(letter)) != strings.Count(shares[1], string(letter)) {
			return false
		}
	}
	return true
}

// allLists are all lists of so many different positions from first to the one before end, in lexicographic order.
func allLists(first, end, many int) [][]int {
	if many == 0 {
		return [][]int{{}}
	}
	var all [][]int
	for at := first; at < end; at++ {
		for _, rest := range allLists(at+1, end, many-1) {
			all = append(all, slices.Concat([]int{at}, rest))
		}
	}
	return all
}

// fairLists are the fair lists of so many cuts of a chain, fairRings those of a ring, in lexicographic order.
func fairLists(chain string, many int) [][]int {
	return slices.DeleteFunc(allLists(1, len(chain), many), func(cuts []int) bool { return !sameLetters(share(chain, cuts)) })
}

func fairRings(chain string, many int) [][]int {
	return slices.DeleteFunc(allLists(0, len(chain), many), func(cuts []int) bool { return !sameLetters(shareRing(chain, cuts)) })
}

// firstFair is the first list of the smallest number of cuts, if there is one of 0, step, twice step .. up to 4 cuts.
func firstFair(fair func(chain string, many int) [][]int, chain string, step int) []int {
	for many := 0; many <= 4; many += step {
		if all := fair(chain, many); len(all) > 0 {
			return all[0]
		}
	}
	return []int{-1}
}

// reversed is a chain from its end to its beginning.
func reversed(chain string) string {
	seals := []byte(chain)
	slices.Reverse(seals)
	return string(seals)
}
