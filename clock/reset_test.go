package clock_test

import (
	"slices"
	"testing"

	"lampbox/api"
	"lampbox/clock"
)

// wantReset checks the word of Reset, and the state: the only one of the image of all.
func wantReset(t *testing.T, machine [][]int, want string, exists bool) {
	t.Helper()
	word, state, err := clock.Reset(machine)
	wantWord(t, machine, word, err, want, exists)
	if exists && !slices.Equal(imageOf(machine, statesOf(machine), word), []int{state}) || !exists && state != 0 {
		t.Fatalf("Reset(%v) leads to %d", machine, state)
	}
}

func wantMerge(t *testing.T, machine [][]int, p, q int, want string, exists bool) {
	t.Helper()
	word, err := clock.Merge(machine, p, q)
	wantWord(t, []any{machine, p, q}, word, err, want, exists)
}

func wantApart(t *testing.T, machine [][]int, want []int) {
	t.Helper()
	if got := apartOf(t, machine); !slices.Equal(got, want) {
		t.Fatalf("Apart(%v) = %v, want %v", machine, got, want)
	}
}

// P10.1: the chapter's examples, and machines whose words are known.
func TestKnownResets(t *testing.T) {
	for _, x := range []struct {
		machine [][]int
		word    string
		exists  bool
		apart   []int
	}{
		{slowOf(t, 3), "baab", true, nil},
		{slowOf(t, 4), "baaabaaab", true, nil},
		{[][]int{{0}}, "", true, nil},
		{[][]int{{0}, {0}, {0}, {0}}, "", true, nil},
		{[][]int{{1, 0}}, "", false, []int{0, 1}},
		{[][]int{{0, 1}}, "", false, []int{0, 1}},
		{[][]int{{0, 0}}, "a", true, nil},
		{[][]int{{1, 1}}, "a", true, nil},
		{[][]int{{1, 0}, {1, 1}}, "b", true, nil},
		{[][]int{{1, 1}, {0, 0}}, "a", true, nil},
		{[][]int{{0, 1, 2}, {1, 1, 2}, {0, 2, 2}}, "bc", true, nil},
		{[][]int{{0, 2, 2}, {1, 1, 2}, {0, 1, 2}}, "ba", true, nil},
		{[][]int{{0, 0, 2}}, "", false, []int{0, 2}},
		{[][]int{{0, 1, 1}}, "", false, []int{0, 1}},
		{[][]int{{0, 1, 0}}, "", false, []int{0, 1}},
		{[][]int{{0, 0, 0, 3}}, "", false, []int{0, 3}},
		{[][]int{{1, 2, 3, 4, 5, 6, 7, 8, 8}}, "aaaaaaaa", true, nil},
		{[][]int{{0, 1, 2, 3, 4, 5, 6, 7, 8}, {0, 1, 2, 3, 4, 5, 6, 7, 8}, {0, 1, 2, 3, 4, 5, 6, 7, 8}, {8, 8, 8, 8, 8, 8, 8, 8, 8}}, "d", true, nil},
	} {
		wantReset(t, x.machine, x.word, x.exists)
		wantApart(t, x.machine, x.apart)
	}
}

// P10.1: the words of Merge that are known; both states may be the same one, and stand either way round.
func TestKnownMerges(t *testing.T) {
	slow := slowOf(t, 3)
	for _, x := range []struct {
		machine [][]int
		p, q    int
		word    string
		exists  bool
	}{
		{slow, 0, 0, "", true},
		{slow, 2, 2, "", true},
		{slow, 0, 2, "b", true},
		{slow, 2, 0, "b", true},
		{slow, 1, 2, "ab", true},
		{slow, 0, 1, "aab", true},
		{slow, 1, 0, "aab", true},
		{[][]int{{1, 0}}, 0, 1, "", false},
		{[][]int{{1, 0}}, 1, 1, "", true},
		{[][]int{{0, 0, 2}}, 0, 1, "a", true},
		{[][]int{{0, 0, 2}}, 1, 2, "", false},
		{[][]int{{0, 1, 2}, {0, 0, 0}, {1, 1, 1}}, 1, 2, "b", true},
		{[][]int{{0}}, 0, 0, "", true},
	} {
		wantMerge(t, x.machine, x.p, x.q, x.word, x.exists)
	}
}

// firstThat is the first word whose image of a set has this length, or is this one.
func firstThat(machine [][]int, words []string, set []int, is func(image []int) bool) (string, bool) {
	i := slices.IndexFunc(words, func(word string) bool { return is(imageOf(machine, set, word)) })
	if i < 0 {
		return "", false
	}
	return words[i], true
}

func isSingle(image []int) bool {
	return len(image) == 1
}

// P10.1: all machines with few states. No first word is longer than there are sets.
func TestResetByAllWords(t *testing.T) {
	for _, machine := range smallMachines() {
		n := len(machine[0])
		words := allWords(len(machine), 1<<n-2)
		word, exists := firstThat(machine, words, statesOf(machine), isSingle)
		wantReset(t, machine, word, exists)
		var apart []int
		for p := range n {
			for q := range n {
				word, exists = firstThat(machine, words, []int{p, q}, isSingle)
				wantMerge(t, machine, p, q, word, exists)
				if p < q && !exists && apart == nil {
					apart = []int{p, q}
				}
			}
		}
		wantApart(t, machine, apart)
	}
}

// P10.1, P4: machines with more states, with words that are found backwards.
func TestResetBackwards(t *testing.T) {
	for _, machine := range someMachines(t) {
		n := len(machine[0])
		single := farFromFew(machine, 1)
		word, exists := single.firstWord(statesOf(machine))
		wantReset(t, machine, word, exists)
		var apart []int
		for p := range n {
			for q := range n {
				word, exists = single.firstWord([]int{p, q})
				wantMerge(t, machine, p, q, word, exists)
				if p < q && !exists && apart == nil {
					apart = []int{p, q}
				}
			}
		}
		wantApart(t, machine, apart)
	}
}

// P10.1: what is not a state is an error, also where no two states can be merged.
func TestMergeOfNoStates(t *testing.T) {
	for _, machine := range [][][]int{{{0}}, {{1, 0}}, slowOf(t, 3), slowOf(t, 9)} {
		n := len(machine[0])
		for _, wrong := range []int{-1, -2, n, n + 1, 9, 16, 64, 1 << 32, huge, -huge - 1} {
			for _, q := range []int{0, n - 1, -1, n, wrong} {
				for _, pair := range [][2]int{{wrong, q}, {q, wrong}} {
					word, err := clock.Merge(machine, pair[0], pair[1])
					wantErr(t, pair, err, api.ErrArg)
					if word != "" {
						t.Fatalf("Merge(%v) = %q with an error", pair, word)
					}
				}
			}
		}
	}
}
