package seals_test

import (
	"slices"
	"strings"
	"testing"

	"lampbox/api"
	"lampbox/seals"
)

// P4.2.
func TestWays(t *testing.T) {
	for _, chain := range slices.Concat(shortChains(), longChains()) {
		for many := range api.MaxCuts + 1 {
			want := len(fairLists(chain, many))
			if ways, err := seals.Ways(chain, many); err != api.OK || ways != want {
				t.Fatalf("Ways(%s, %d) = %d %d, want %d", chain, many, ways, err, want)
			}
		}
	}
}

// P4.2: with one letter only, both carriers divide their half into pieces independently: 605 is 11 times 55.
func TestWaysOfKnownChains(t *testing.T) {
	for _, x := range []struct {
		chain string
		want  [5]int
	}{
		{"", [5]int{1, 0, 0, 0, 0}},
		{"aa", [5]int{0, 1, 0, 0, 0}},
		{"aaaa", [5]int{0, 1, 1, 1, 0}},
		{"aabb", [5]int{0, 0, 1, 1, 0}},
		{"abab", [5]int{0, 1, 1, 0, 0}},
		{"aabbccdd", [5]int{0, 0, 0, 0, 1}},
		{strings.Repeat("b", 24), [5]int{0, 1, 11, 121, 605}},
	} {
		for many, want := range x.want {
			if ways, err := seals.Ways(x.chain, many); err != api.OK || ways != want {
				t.Errorf("Ways(%s, %d) = %d %d, want %d", x.chain, many, ways, err, want)
			}
		}
	}
}

// P4.2.
func TestWaysOfWrongNumbers(t *testing.T) {
	for _, chain := range []string{"", "aa", "aabb", strings.Repeat("abcd", 6)} {
		for _, many := range []int{-1, 5, 6, 23, 24, -huge - 1, huge, 1 << 32} {
			if ways, err := seals.Ways(chain, many); err != api.ErrArg || ways != 0 {
				t.Errorf("Ways(%s, %d) = %d %d", chain, many, ways, err)
			}
		}
	}
}

// halvesByTerms takes each substring, and counts each letter.
func halvesByTerms(chain string) []int {
	many := make([]int, len(chain)+1)
	for start := range len(chain) + 1 {
		for end := start; end <= len(chain); end++ {
			half := true
			for _, letter := range []string{"a", "b", "c", "d"} {
				half = half && strings.Count(chain[start:end], letter) == strings.Count(chain, letter)/2
			}
			if half {
				many[end-start]++
			}
		}
	}
	return many
}

// P4.4: of even chains and of those that are not even.
func TestHalves(t *testing.T) {
	chains := slices.Concat(shortChains(), longChains(), together())
	for length := range 6 {
		chains = append(chains, strings4(length)...)
	}
	for _, chain := range slices.Clone(chains) {
		if chain != "" {
			chains = append(chains, chain[1:])
		}
	}
	for _, chain := range chains {
		want := halvesByTerms(chain)
		if many, err := seals.Halves(chain); err != api.OK || !slices.Equal(many, want) {
			t.Fatalf("Halves(%s) = %v %d, want %v", chain, many, err, want)
		}
	}
}

// P4.4: half of one seal is none, and substrings of length 0 are counted at each position.
func TestHalvesOfKnownChains(t *testing.T) {
	for _, x := range []struct {
		chain string
		want  []int
	}{
		{"", []int{1}},
		{"c", []int{2, 0}},
		{"aa", []int{0, 2, 0}},
		{"ab", []int{3, 0, 0}},
		{"aaa", []int{0, 3, 0, 0}},
		{"aba", []int{0, 2, 0, 0}},
		{"abcd", []int{5, 0, 0, 0, 0}},
		{"aabb", []int{0, 0, 1, 0, 0}},
		{"abab", []int{0, 0, 3, 0, 0}},
		{"ddddd", []int{0, 0, 4, 0, 0, 0}},
	} {
		if many, err := seals.Halves(x.chain); err != api.OK || !slices.Equal(many, x.want) {
			t.Errorf("Halves(%s) = %v %d, want %v", x.chain, many, err, x.want)
		}
	}
	many, err := seals.Halves(strings.Repeat("b", 24))
	if err != api.OK || len(many) != 25 || many[12] != 13 {
		t.Errorf("Halves of 24 seals = %v %d", many, err)
	}
}
