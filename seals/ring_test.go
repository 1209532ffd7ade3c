package seals_test

import (
	"slices"
	"strings"
	"testing"

	"lampbox/api"
	"lampbox/seals"
)

// P4.3, P3, P4.
func TestRing(t *testing.T) {
	for _, chain := range slices.Concat(shortChains(), longChains(), together()) {
		want := firstFair(fairRings, chain, 2)
		if cuts, err := seals.Ring(chain); err != api.OK || !slices.Equal(cuts, want) {
			t.Fatalf("Ring(%s) = %v %d, want %v", chain, cuts, err, want)
		}
		wantErr(t, chain, seals.CheckRing(chain, want), api.OK)
	}
}

// P4.3: the example of the chapter; a ring without seals needs no cuts.
func TestRingOfKnownChains(t *testing.T) {
	for _, x := range []struct {
		chain string
		want  []int
	}{
		{"", nil},
		{"aa", []int{0, 1}},
		{"aabb", []int{1, 3}},
		{"abba", []int{0, 2}},
		{"abab", []int{0, 2}},
		{"aabbcc", []int{0, 1, 3, 5}},
		{"aabbccdd", []int{1, 3, 5, 7}},
		{"abbccdda", []int{0, 2, 4, 6}},
		{"aaaabbbb", []int{2, 6}},
		{strings.Repeat("d", 24), []int{0, 12}},
	} {
		if cuts, err := seals.Ring(x.chain); err != api.OK || !slices.Equal(cuts, x.want) {
			t.Errorf("Ring(%s) = %v %d, want %v", x.chain, cuts, err, x.want)
		}
	}
}

// P4.3: of all lists of positions just those of an even number that are fair are right.
func TestCheckRing(t *testing.T) {
	for _, chain := range []string{"", "bb", "abab", "aabb", "acca", "abcabc", "aabbcc", "dabdabdd", "ddddcccc", "aabbccddaa"} {
		for many := range len(chain) + 1 {
			for _, cuts := range allLists(0, len(chain), many) {
				want := api.OK
				if many%2 != 0 {
					want = api.ErrArg
				} else if !sameLetters(shareRing(chain, cuts)) {
					want = api.ErrAnswer
				}
				if err := seals.CheckRing(chain, cuts); err != want {
					t.Fatalf("CheckRing(%s, %v) = %d, want %d", chain, cuts, err, want)
				}
			}
		}
	}
}

// P4.3: without cuts all goes to carrier 0.
func TestCheckRingWithoutCuts(t *testing.T) {
	for _, none := range [][]int{nil, {}} {
		wantErr(t, "no seals", seals.CheckRing("", none), api.OK)
		wantErr(t, "two seals", seals.CheckRing("aa", none), api.ErrAnswer)
		wantErr(t, "24 seals", seals.CheckRing(strings.Repeat("abcd", 6), none), api.ErrAnswer)
	}
}

// P4.3: a list of an odd number is an error even if it would be fair cuts of the chain.
func TestNotCutsOfRing(t *testing.T) {
	var great []int
	for i := range 1000000 {
		great = append(great, i)
	}
	for _, chain := range []string{"abcdabcd", "aabbccdd", "aaaaaaaa", "ddddccbb"} {
		for _, cuts := range [][]int{
			{4}, {0}, {0, 2, 4}, {-1, 4}, {4, 8}, {4, 9}, {0, 8}, {4, 4}, {4, 0}, {5, 4}, {0, 0, 4, 4}, {0, 2, 2, 4}, {0, 4, 2, 6},
			{huge, 1}, {0, huge}, {-huge - 1, 4}, {0, -huge - 1}, {0, 1, 2, 3, 4, 5, 6, 7, 8, 9}, great, great[1:], make([]int, 1000000),
		} {
			if err := seals.CheckRing(chain, cuts); err != api.ErrArg {
				t.Errorf("CheckRing(%s, %v) = %d", chain, cuts[:min(len(cuts), 8)], err)
			}
		}
	}
	for _, cuts := range [][]int{{0}, {0, 0}, {0, 1}, {-1, 0}} {
		wantErr(t, "no seals", seals.CheckRing("", cuts), api.ErrArg)
	}
}
