package clock_test

import (
	"math/rand/v2"
	"slices"
	"testing"

	"lampbox/api"
	"lampbox/clock"
)

// P10.5: a machine can be reset exactly if Apart is empty, exactly if its rank is 1, and exactly if Greedy has a word.
func TestWhatCanBeReset(t *testing.T) {
	can := map[bool]int{}
	for _, machine := range slices.Concat(smallMachines(), someMachines(t)) {
		word, _, err := clock.Reset(machine)
		rank, ranked := rankOf(t, machine)
		_, greedyErr := clock.Greedy(machine)
		none := len(apartOf(t, machine)) > 0
		if (err == api.ErrNone) != none || (rank > 1) != none || greedyErr != err || !none && word != ranked {
			t.Fatalf("%v: Reset %q %d, Rank %d %q, Greedy %d", machine, word, err, rank, ranked, greedyErr)
		}
		can[none]++
	}
	if can[true] < 100 || can[false] < 100 {
		t.Errorf("too few machines that can be reset, or too few others: %v", can)
	}
}

// P10.5: the words of slow machines are as long as is known, also with other names.
func TestSlowIsSlow(t *testing.T) {
	r := rand.New(rand.NewPCG(10, 6))
	for n := 2; n <= api.MaxStates; n++ {
		slow := slowOf(t, n)
		for _, machine := range [][][]int{slow, renamed(slow, r.Perm(n))} {
			word, _, err := clock.Reset(machine)
			wantErr(t, n, err, api.OK)
			if len(word) != (n-1)*(n-1) {
				t.Errorf("Slow(%d): %q has %d buttons", n, word, len(word))
			}
		}
	}
}

// P10.5: no word of Reset is longer than (n^3 - n) / 6.
func TestResetIsNotTooLong(t *testing.T) {
	for _, machine := range slices.Concat(smallMachines(), someMachines(t), randomMachines(20)) {
		n := len(machine[0])
		if word, _, _ := clock.Reset(machine); len(word) > (n*n*n-n)/6 {
			t.Fatalf("Reset(%v) = %q", machine, word)
		}
	}
}

// P10.5: what resets does so with any words before and after it; the words of Reset, of Rank and of Greedy do.
func TestResetWithWordsAround(t *testing.T) {
	r := rand.New(rand.NewPCG(10, 7))
	for _, machine := range someMachines(t) {
		reset, state, err := clock.Reset(machine)
		if err != api.OK {
			continue
		}
		all := statesOf(machine)
		if image := imageFrom(t, machine, all, reset); !slices.Equal(image, []int{state}) {
			t.Fatalf("Reset(%v) leads to %v, not to %d", machine, image, state)
		}
		greedy, err := clock.Greedy(machine)
		wantErr(t, machine, err, api.OK)
		for _, word := range []string{reset, greedy} {
			for range 5 {
				room := api.MaxWord - len(word)
				before := r.IntN(room + 1)
				whole := randomWord(r, len(machine), before) + word + randomWord(r, len(machine), room-before)
				if image := imageFrom(t, machine, all, whole); len(image) != 1 {
					t.Fatalf("%v: the image under %q is %v", machine, whole, image)
				}
			}
		}
	}
}

// P10.5: Greedy resets, and is at least as long as Reset.
func TestGreedyIsNotShorter(t *testing.T) {
	for _, machine := range slices.Concat(smallMachines(), someMachines(t), randomMachines(20)) {
		greedy, err := clock.Greedy(machine)
		reset, _, resetErr := clock.Reset(machine)
		wantErr(t, machine, err, resetErr)
		if len(greedy) < len(reset) {
			t.Fatalf("%v: Greedy %q, Reset %q", machine, greedy, reset)
		}
		if err == api.OK && len(imageFrom(t, machine, statesOf(machine), greedy)) != 1 {
			t.Fatalf("Greedy(%v) = %q does not reset", machine, greedy)
		}
	}
}
