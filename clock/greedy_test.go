package clock_test

import (
	"slices"
	"testing"

	"lampbox/clock"
)

// greedyWord holds the terms: it merges again and again the pair of the set whose word is first.
func greedyWord(machine [][]int) (string, bool) {
	single := farFromFew(machine, 1)
	n := len(machine[0])
	for p := range n {
		for q := range p {
			if _, ok := single.firstWord([]int{q, p}); !ok {
				return "", false
			}
		}
	}
	word := ""
	for set := statesOf(machine); len(set) > 1; {
		var words []string
		for i, p := range set {
			for _, q := range set[:i] {
				merge, _ := single.firstWord([]int{q, p})
				words = append(words, merge)
			}
		}
		next := slices.MinFunc(words, compareWords)
		word += next
		set = imageOf(machine, set, next)
	}
	return word, true
}

func wantGreedy(t *testing.T, machine [][]int, want string, exists bool) {
	t.Helper()
	word, err := clock.Greedy(machine)
	wantWord(t, machine, word, err, want, exists)
}

// P10.4: the chapter's examples, and machines whose words are known.
func TestKnownGreedy(t *testing.T) {
	wantGreedy(t, [][]int{{0}}, "", true)
	wantGreedy(t, [][]int{{1, 0}}, "", false)
	wantGreedy(t, slowOf(t, 2), "b", true)
	wantGreedy(t, slowOf(t, 3), "baab", true)
	// a merges two states at once, and then b does; bb would be shorter.
	wantGreedy(t, [][]int{{0, 0, 2, 3}, {1, 2, 2, 2}}, "abb", true)
	// Some states can be merged, but not all.
	wantGreedy(t, [][]int{{0, 0, 2}}, "", false)
	wantGreedy(t, [][]int{{0, 0, 2, 2}}, "", false)
	wantGreedy(t, [][]int{{0, 0, 0, 3}, {0, 1, 1, 3}}, "", false)
}

// P10.4: all machines with few states.
func TestGreedyOfSmallMachines(t *testing.T) {
	for _, machine := range smallMachines() {
		word, exists := greedyWord(machine)
		wantGreedy(t, machine, word, exists)
	}
}

// P10.4, P4.
func TestGreedy(t *testing.T) {
	longer := 0
	for _, machine := range slices.Concat(someMachines(t), randomMachines(10)) {
		word, exists := greedyWord(machine)
		wantGreedy(t, machine, word, exists)
		if reset, _, _ := clock.Reset(machine); len(word) > len(reset) {
			longer++
		}
	}
	if longer < 50 {
		t.Errorf("only %d words are longer than those of Reset", longer)
	}
}
