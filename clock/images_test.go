package clock_test

import (
	"math/rand/v2"
	"slices"
	"strings"
	"testing"

	"lampbox/api"
	"lampbox/clock"
)

func wantImage(t *testing.T, machine [][]int, set []int, word string) {
	t.Helper()
	if got, want := imageFrom(t, machine, set, word), imageOf(machine, set, word); !slices.Equal(got, want) {
		t.Fatalf("Image(%v, %v, %q) = %v, want %v", machine, set, word, got, want)
	}
}

func wantRank(t *testing.T, machine [][]int, want int, word string) {
	t.Helper()
	if rank, got := rankOf(t, machine); rank != want || got != word {
		t.Fatalf("Rank(%v) = %d %q, want %d %q", machine, rank, got, want, word)
	}
}

func wantLead(t *testing.T, machine [][]int, from, to []int, want string, exists bool) {
	t.Helper()
	word, err := clock.Lead(machine, from, to)
	wantWord(t, []any{machine, from, to}, word, err, want, exists)
}

// P10.2: known images; a word is pressed from left to right.
func TestKnownImages(t *testing.T) {
	slow := slowOf(t, 3)
	for _, x := range []struct {
		set  []int
		word string
		want []int
	}{
		{[]int{0, 1, 2}, "", []int{0, 1, 2}},
		{[]int{0, 1, 2}, "a", []int{0, 1, 2}},
		{[]int{0, 1, 2}, "b", []int{0, 1}},
		{[]int{0, 1, 2}, "ba", []int{1, 2}},
		{[]int{0, 1, 2}, "ab", []int{0, 1}},
		{[]int{0, 1, 2}, "baab", []int{0}},
		{[]int{1}, "ab", []int{0}},
		{[]int{1}, "ba", []int{2}},
		{[]int{2}, "", []int{2}},
		{[]int{1, 2}, "a", []int{0, 2}},
		{nil, "", nil},
		{[]int{}, "abba", nil},
	} {
		if got := imageFrom(t, slow, x.set, x.word); !slices.Equal(got, x.want) {
			t.Errorf("Image(%v, %q) = %v, want %v", x.set, x.word, got, x.want)
		}
		wantImage(t, slow, x.set, x.word)
	}
}

func randomWord(r *rand.Rand, k, long int) string {
	var word []byte
	for range long {
		word = append(word, 'a'+byte(r.IntN(k)))
	}
	return string(word)
}

// P10.2: all sets, and random words of all lengths.
func TestImages(t *testing.T) {
	r := rand.New(rand.NewPCG(10, 3))
	for _, machine := range slices.Concat(allMachines(2, 2), someMachines(t)) {
		k := len(machine)
		for _, set := range allSets(len(machine[0])) {
			wantImage(t, machine, set, randomWord(r, k, r.IntN(6)))
		}
		wantImage(t, machine, statesOf(machine), randomWord(r, k, r.IntN(api.MaxWord+1)))
		wantImage(t, machine, statesOf(machine), randomWord(r, k, api.MaxWord))
	}
}

func wantNoImage(t *testing.T, machine [][]int, set []int, word string) {
	t.Helper()
	image, err := clock.Image(machine, set, word)
	wantErr(t, []any{machine, set, len(word)}, err, api.ErrArg)
	if len(image) > 0 {
		t.Fatalf("Image(%v, %v) = %v with an error", machine, set, image)
	}
}

// P10.2: words have at most MaxWord buttons of the machine, and nothing else.
func TestImageUnderNoWords(t *testing.T) {
	letters := "abcd"
	for k := 1; k <= api.MaxButtons; k++ {
		machine := make([][]int, k)
		for button := range machine {
			machine[button] = []int{1, 2, 0}
		}
		wantImage(t, machine, []int{0, 2}, strings.Repeat(letters[k-1:k], api.MaxWord))
		for _, long := range []int{1001, 1002, 1024, 4096, 10000000} {
			wantNoImage(t, machine, []int{0, 2}, strings.Repeat("a", long))
		}
		for letter := range 256 {
			if letter >= 'a' && letter < 'a'+k {
				continue
			}
			wrong := string([]byte{byte(letter)})
			for _, word := range []string{wrong, wrong + "a", "a" + wrong, "aa" + wrong + "a"} {
				wantNoImage(t, machine, []int{0, 2}, word)
				wantNoImage(t, machine, nil, word)
			}
		}
		wantNoImage(t, machine, []int{0}, strings.Repeat("a", api.MaxWord-1)+"e")
		wantNoImage(t, machine, []int{0}, "\u0101")
		wantNoImage(t, machine, []int{1, 0}, "e")
	}
}

// wrongSets are lists that are not sets of n states.
func wrongSets(n int) [][]int {
	wrong := [][]int{{-1}, {n}, {n + 1}, {0, 0}, {n - 1, n - 1}, {0, n}, {-1, 0}, {16}, {0, 16}, {64}, {1 << 32}, {huge}, {0, huge}, {-huge - 1}, {-huge - 1, 0}, make([]int, 1000000)}
	if n > 1 {
		wrong = append(wrong, []int{1, 0}, []int{0, 1, 0}, []int{0, 1, 1}, []int{0, 0, 1}, []int{n - 1, 0}, []int{0, 1, n})
	}
	return wrong
}

// P10.2: what is not a set is an error, also with a wrong word; the empty set has no word that leads from or to it.
func TestNoSets(t *testing.T) {
	for n := 1; n <= api.MaxStates; n++ {
		machine := slowOf(t, n)
		for _, wrong := range wrongSets(n) {
			wantNoImage(t, machine, wrong, "")
			wantNoImage(t, machine, wrong, "ab")
			wantNoImage(t, machine, wrong, "c")
			wantNoLead(t, machine, wrong, []int{0})
			wantNoLead(t, machine, []int{0}, wrong)
			wantNoLead(t, machine, wrong, wrong)
			wantNoLead(t, machine, wrong, nil)
			wantNoLead(t, machine, nil, wrong)
		}
		for _, empty := range [][]int{nil, {}} {
			wantNoLead(t, machine, empty, []int{0})
			wantNoLead(t, machine, []int{0}, empty)
			wantNoLead(t, machine, empty, empty)
		}
	}
}

func wantNoLead(t *testing.T, machine [][]int, from, to []int) {
	t.Helper()
	word, err := clock.Lead(machine, from, to)
	wantErr(t, []any{machine, len(from), len(to)}, err, api.ErrArg)
	if word != "" {
		t.Fatalf("Lead = %q with an error", word)
	}
}

// P10.2: the chapter's example, and machines whose ranks are known.
func TestKnownRanks(t *testing.T) {
	wantRank(t, [][]int{{1, 0}}, 2, "")
	wantRank(t, [][]int{{0}}, 1, "")
	wantRank(t, slowOf(t, 3), 1, "baab")
	wantRank(t, [][]int{{1, 0}, {0, 0}}, 1, "b")
	wantRank(t, [][]int{{1, 2, 3, 0}, {1, 0, 3, 2}}, 4, "")
	wantRank(t, [][]int{{0, 0, 2, 2}}, 2, "a")
	wantRank(t, [][]int{{0, 0, 2, 3}}, 3, "a")
	wantRank(t, [][]int{{0, 1, 2, 3}, {0, 1, 2, 2}, {0, 0, 2, 3}}, 2, "bc")
	wantRank(t, [][]int{{1, 2, 3, 4, 5, 6, 7, 8, 0}}, 9, "")
	wantRank(t, [][]int{{1, 2, 3, 4, 5, 6, 7, 8, 7}}, 2, "aaaaaaa")
}

// P10.2: known words of Lead: the image has to be the whole set, not a part of it, and not more.
func TestKnownLeads(t *testing.T) {
	slow := slowOf(t, 3)
	wantLead(t, slow, []int{0, 1, 2}, []int{0, 1, 2}, "", true)
	wantLead(t, slow, []int{0, 1, 2}, []int{0, 1}, "b", true)
	wantLead(t, slow, []int{0, 1, 2}, []int{0, 2}, "baa", true)
	wantLead(t, slow, []int{0, 1, 2}, []int{0}, "baab", true)
	wantLead(t, slow, []int{0, 1, 2}, []int{2}, "baabaa", true)
	wantLead(t, slow, []int{1}, []int{2}, "a", true)
	wantLead(t, slow, []int{2}, []int{0}, "a", true)
	wantLead(t, slow, []int{0, 2}, []int{1, 2}, "aa", true)
	wantLead(t, slow, []int{0}, []int{0, 1}, "", false)
	wantLead(t, slow, []int{0, 1}, []int{0, 1, 2}, "", false)
	wantLead(t, [][]int{{1, 0}}, []int{0}, []int{0}, "", true)
	wantLead(t, [][]int{{1, 0}}, []int{0}, []int{1}, "a", true)
	wantLead(t, [][]int{{1, 0}}, []int{0, 1}, []int{1}, "", false)
	wantLead(t, [][]int{{0, 0}}, []int{0}, []int{1}, "", false)
	wantLead(t, [][]int{{0}}, []int{0}, []int{0}, "", true)
}

// P10.2: all machines with few states, and all of their sets.
func TestRankAndLeadByAllWords(t *testing.T) {
	for _, machine := range smallMachines() {
		n := len(machine[0])
		words := allWords(len(machine), 1<<n-2)
		rank := n
		for _, word := range words {
			rank = min(rank, len(imageOf(machine, statesOf(machine), word)))
		}
		word, _ := firstThat(machine, words, statesOf(machine), func(image []int) bool { return len(image) == rank })
		wantRank(t, machine, rank, word)
		for _, from := range allSets(n)[1:] {
			for _, to := range allSets(n)[1:] {
				word, exists := firstThat(machine, words, from, func(image []int) bool { return slices.Equal(image, to) })
				wantLead(t, machine, from, to, word, exists)
			}
		}
	}
}

// P10.2, P4: machines with more states, with words that are found backwards.
func TestRankBackwards(t *testing.T) {
	for _, machine := range someMachines(t) {
		for rank := 1; ; rank++ {
			if word, exists := farFromFew(machine, rank).firstWord(statesOf(machine)); exists {
				wantRank(t, machine, rank, word)
				break
			}
		}
	}
}

// P10.2, P4: sets that can be reached, and others.
func TestLeadBackwards(t *testing.T) {
	r := rand.New(rand.NewPCG(10, 4))
	for _, machine := range someMachines(t) {
		sets := allSets(len(machine[0]))[1:]
		for _, from := range [][]int{statesOf(machine), sets[r.IntN(len(sets))]} {
			for _, to := range [][]int{imageOf(machine, from, randomWord(r, len(machine), r.IntN(12))), sets[r.IntN(len(sets))]} {
				word, exists := farFrom(machine, func(code int) bool { return code == codeOf(to) }).firstWord(from)
				wantLead(t, machine, from, to, word, exists)
			}
		}
	}
}
