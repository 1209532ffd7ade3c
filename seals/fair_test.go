package seals_test

import (
	"slices"
	"strings"
	"testing"

	"lampbox/api"
	"lampbox/seals"
)

// P4.1, P3: fair cuts, at most one for each kind.
func TestFair(t *testing.T) {
	for _, chain := range slices.Concat(shortChains(), longChains(), together()) {
		cuts, err := seals.Fair(chain)
		if err != api.OK || len(cuts) > kinds(chain) || !sameLetters(share(chain, cuts)) {
			t.Fatalf("Fair(%s) = %v %d", chain, cuts, err)
		}
		if err := seals.Check(chain, cuts); err != api.OK {
			t.Fatalf("Check(%s, %v) = %d", chain, cuts, err)
		}
	}
}

// P4.1, P3, P4: the first ones of the fewest cuts.
func TestLeast(t *testing.T) {
	for _, chain := range slices.Concat(shortChains(), longChains(), together()) {
		want := firstFair(fairLists, chain, 1)
		if cuts, err := seals.Least(chain); err != api.OK || !slices.Equal(cuts, want) {
			t.Fatalf("Least(%s) = %v %d, want %v", chain, cuts, err, want)
		}
		wantErr(t, chain, seals.Check(chain, want), api.OK)
	}
}

// P4.1: the examples of the chapter, and the ends of the limits.
func TestLeastOfKnownChains(t *testing.T) {
	for _, x := range []struct {
		chain string
		want  []int
	}{
		{"", nil},
		{"aa", []int{1}},
		{"dddd", []int{2}},
		{"aabb", []int{1, 3}},
		{"abab", []int{2}},
		{"abba", []int{2}},
		{"aabaab", []int{3}},
		{"aabaabaa", []int{4}},
		{"bbaaaa", []int{1, 4}},
		{"aabbcc", []int{1, 3, 5}},
		{"aabbccdd", []int{1, 3, 5, 7}},
		{"abcdabcd", []int{4}},
		{strings.Repeat("c", 24), []int{12}},
		{strings.Repeat("abcd", 6), []int{12}},
		{"aaaaaabbbbbbccccccdddddd", []int{3, 9, 15, 21}},
	} {
		if cuts, err := seals.Least(x.chain); err != api.OK || !slices.Equal(cuts, x.want) {
			t.Errorf("Least(%s) = %v %d, want %v", x.chain, cuts, err, x.want)
		}
	}
}

// P4.1: of all lists of positions just the fair ones are right.
func TestCheck(t *testing.T) {
	for _, chain := range []string{"", "bb", "abab", "aabb", "acca", "abcabc", "aabbcc", "dabdabdd", "ddddcccc", "aabbccddaa"} {
		for many := range len(chain) + 1 {
			for _, cuts := range allLists(1, len(chain), many) {
				want := api.OK
				if !sameLetters(share(chain, cuts)) {
					want = api.ErrAnswer
				}
				if err := seals.Check(chain, cuts); err != want {
					t.Fatalf("Check(%s, %v) = %d, want %d", chain, cuts, err, want)
				}
			}
		}
	}
}

// P4.1: fair cuts may be more than there are kinds.
func TestCheckManyCuts(t *testing.T) {
	var every []int
	for at := 1; at < api.MaxSeals; at++ {
		every = append(every, at)
	}
	chain := strings.Repeat("aabbccdd", 3)
	wantErr(t, "cuts everywhere", seals.Check(chain, every), api.OK)
	wantErr(t, "one cut less", seals.Check(chain, every[1:]), api.ErrAnswer)
	wantErr(t, "one cut less", seals.Check(chain, every[:22]), api.ErrAnswer)
	wantErr(t, "one letter only", seals.Check(strings.Repeat("d", 24), every), api.OK)
}

// P4.1: each letter counts for itself, also where the carriers have the same number of seals.
func TestCheckCountsEachLetter(t *testing.T) {
	for _, x := range []struct {
		chain string
		cuts  []int
	}{
		{"aabb", []int{2}}, {"bbaa", []int{2}}, {"ccdd", []int{2}}, {"ddcc", []int{2}}, {"aadd", []int{2}}, {"bbcc", []int{2}},
		{"abcabbcb", []int{4}}, {"aabbccdd", []int{1, 5}}, {"aabbccdd", []int{2, 4, 6}},
	} {
		wantErr(t, x.chain, seals.Check(x.chain, x.cuts), api.ErrAnswer)
	}
}

// notCuts are lists that are not cuts of a chain of 8 seals.
func notCuts() [][]int {
	var great []int
	for i := range 1000000 {
		great = append(great, i+1)
	}
	return [][]int{
		{0}, {8}, {9}, {-1}, {huge}, {-huge - 1}, {0, 4}, {4, 8}, {4, 4}, {5, 4}, {3, 2, 1}, {2, 4, 4}, {2, 2, 4}, {1, 7, 6},
		{1, 2, 3, 4, 5, 6, 7, 8}, {1, 2, 3, 4, 5, 6, 7, 7}, {4, huge}, {huge, 4}, {4, -huge - 1}, great, make([]int, 1000000),
	}
}

// P4.1: what is not cuts is an error before it could be unfair.
func TestNotCuts(t *testing.T) {
	for _, chain := range []string{"abcdabcd", "aabbccdd", "aaaaaaaa", "ddddccbb"} {
		for _, cuts := range notCuts() {
			what := cuts[:min(len(cuts), 8)]
			if err := seals.Check(chain, cuts); err != api.ErrArg {
				t.Errorf("Check(%s, %v) = %d", chain, what, err)
			}
			if a, b, err := seals.Shares(chain, cuts); err != api.ErrArg || a != "" || b != "" {
				t.Errorf("Shares(%s, %v) = %q %q %d", chain, what, a, b, err)
			}
		}
	}
	for _, cuts := range [][]int{{0}, {1}, {-1}, {0, 1}} {
		wantErr(t, "no seals", seals.Check("", cuts), api.ErrArg)
	}
	wantErr(t, "two seals", seals.Check("aa", []int{2}), api.ErrArg)
	wantErr(t, "two seals", seals.Check("aa", []int{0, 1}), api.ErrArg)
}

// P4.1: Shares takes all cuts, and chains that are not even, too.
func TestShares(t *testing.T) {
	chains := []string{"dadbabdb", "abcdd", "aabbcc", "ddddcccbba"}
	for length := range 4 {
		chains = append(chains, strings4(length)...)
	}
	for _, chain := range chains {
		for many := range len(chain) + 1 {
			for _, cuts := range allLists(1, len(chain), many) {
				a, b, err := seals.Shares(chain, cuts)
				if want := share(chain, cuts); err != api.OK || a != want[0] || b != want[1] {
					t.Fatalf("Shares(%s, %v) = %s %s %d, want %v", chain, cuts, a, b, err, want)
				}
			}
		}
	}
}

// P4.1.
func TestSharesOfKnownChains(t *testing.T) {
	for _, x := range []struct {
		chain string
		cuts  []int
		want  [2]string
	}{
		{"", nil, [2]string{"", ""}},
		{"d", nil, [2]string{"d", ""}},
		{"abc", nil, [2]string{"abc", ""}},
		{"abc", []int{1}, [2]string{"a", "bc"}},
		{"aabb", []int{1, 3}, [2]string{"ab", "ab"}},
		{"abcdabc", []int{1, 3, 6}, [2]string{"adab", "bcc"}},
		{strings.Repeat("abcd", 6), []int{23}, [2]string{strings.Repeat("abcd", 5) + "abc", "d"}},
	} {
		if a, b, err := seals.Shares(x.chain, x.cuts); err != api.OK || a != x.want[0] || b != x.want[1] {
			t.Errorf("Shares(%s, %v) = %s %s %d, want %v", x.chain, x.cuts, a, b, err, x.want)
		}
	}
	if _, _, err := seals.Shares("", []int{0}); err != api.ErrArg {
		t.Errorf("Shares of no seals: error %d", err)
	}
	if _, _, err := seals.Shares("a", []int{1}); err != api.ErrArg {
		t.Errorf("Shares of one seal: error %d", err)
	}
}
