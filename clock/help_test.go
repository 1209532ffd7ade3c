package clock_test

import (
	"cmp"
	"math/bits"
	"math/rand/v2"
	"slices"
	"strings"
	"testing"

	"lampbox/api"
	"lampbox/clock"
)

const huge = 1<<63 - 1

// allMachines are all machines with n states and k buttons.
func allMachines(n, k int) [][][]int {
	var lists [][]int
	for _, code := range allLists(n, n) {
		lists = append(lists, code)
	}
	var all [][][]int
	for _, choice := range allLists(len(lists), k) {
		var machine [][]int
		for _, i := range choice {
			machine = append(machine, lists[i])
		}
		all = append(all, machine)
	}
	return all
}

// allLists are all lists of so many numbers below n, in lexicographic order.
func allLists(n, many int) [][]int {
	lists := [][]int{{}}
	for range many {
		var longer [][]int
		for _, list := range lists {
			for number := range n {
				longer = append(longer, slices.Concat(list, []int{number}))
			}
		}
		lists = longer
	}
	return lists
}

// smallMachines are those whose words can all be tried.
func smallMachines() [][][]int {
	return slices.Concat(allMachines(1, 1), allMachines(1, 2), allMachines(1, 4), allMachines(2, 1), allMachines(2, 2),
		allMachines(2, 3), allMachines(2, 4), allMachines(3, 1), allMachines(3, 2))
}

func randomMachine(r *rand.Rand, n, k int) [][]int {
	machine := make([][]int, k)
	for button := range machine {
		for range n {
			machine[button] = append(machine[button], r.IntN(n))
		}
	}
	return machine
}

// permuting has buttons that only exchange states, but for so many places at which one of them is changed.
func permuting(r *rand.Rand, n, k, changes int) [][]int {
	machine := make([][]int, k)
	for button := range machine {
		machine[button] = r.Perm(n)
	}
	for range changes {
		machine[r.IntN(k)][r.IntN(n)] = r.IntN(n)
	}
	return machine
}

// blocked has two blocks of states, the even ones and the odd ones: every button leads each block into one block.
func blocked(r *rand.Rand, n, k int) [][]int {
	machine := make([][]int, k)
	for button := range machine {
		swap := r.IntN(2)
		for q := range n {
			next := r.IntN(n)
			for next%2 != (q+swap)%2 {
				next = r.IntN(n)
			}
			machine[button] = append(machine[button], next)
		}
	}
	return machine
}

// falling leads each state to a smaller one, or to itself.
func falling(r *rand.Rand, n, k int) [][]int {
	machine := make([][]int, k)
	for button := range machine {
		for q := range n {
			machine[button] = append(machine[button], max(0, q-r.IntN(2)))
		}
	}
	return machine
}

// renamed has other names for the states.
func renamed(machine [][]int, names []int) [][]int {
	other := make([][]int, len(machine))
	for button, list := range machine {
		other[button] = make([]int, len(list))
		for q, next := range list {
			other[button][names[q]] = names[next]
		}
	}
	return other
}

// slowOnes are the machines of Slow, also with other names and with further buttons.
func slowOnes(t *testing.T) [][][]int {
	t.Helper()
	r := rand.New(rand.NewPCG(10, 1))
	var all [][][]int
	for n := 1; n <= api.MaxStates; n++ {
		slow := slowOf(t, n)
		all = append(all, slow, renamed(slow, r.Perm(n)), [][]int{slow[1], slow[0]}, slow[:1], slow[1:])
		all = append(all, slices.Concat(slow, permuting(r, n, 1, 0)), slices.Concat(permuting(r, n, 2, 1), slow))
	}
	return all
}

// randomMachines are machines of all numbers of states and buttons.
func randomMachines(times int) [][][]int {
	r := rand.New(rand.NewPCG(10, 2))
	var all [][][]int
	for n := 1; n <= api.MaxStates; n++ {
		for k := 1; k <= api.MaxButtons; k++ {
			for range times {
				all = append(all, randomMachine(r, n, k), falling(r, n, k))
				all = append(all, permuting(r, n, k, 0), permuting(r, n, k, 1), permuting(r, n, k, 2))
				if n > 1 {
					all = append(all, blocked(r, n, k))
				}
			}
		}
	}
	return all
}

func someMachines(t *testing.T) [][][]int {
	return slices.Concat(slowOnes(t), randomMachines(3))
}

// statesOf is the set of all states.
func statesOf(machine [][]int) []int {
	var all []int
	for q := range machine[0] {
		all = append(all, q)
	}
	return all
}

// imageOf holds the terms.
func imageOf(machine [][]int, set []int, word string) []int {
	image := slices.Clone(set)
	for _, letter := range []byte(word) {
		for i, q := range image {
			image[i] = machine[letter-'a'][q]
		}
	}
	slices.Sort(image)
	return slices.Compact(image)
}

// allSets are the sets of states of a machine with n states, that of each number at the position of its bits.
func allSets(n int) [][]int {
	sets := make([][]int, 1<<n)
	for code := range sets {
		for q := range n {
			if code>>q&1 == 1 {
				sets[code] = append(sets[code], q)
			}
		}
	}
	return sets
}

func codeOf(set []int) int {
	code := 0
	for _, q := range set {
		code |= 1 << q
	}
	return code
}

// allWords are all words of at most so many of k buttons, in their order.
func allWords(k, longest int) []string {
	words := []string{""}
	begin := 0
	for range longest {
		end := len(words)
		for _, word := range words[begin:end] {
			for button := range k {
				words = append(words, word+string(rune('a'+button)))
			}
		}
		begin = end
	}
	return words
}

// compareWords is the order of words.
func compareWords(one, other string) int {
	return cmp.Or(cmp.Compare(len(one), len(other)), strings.Compare(one, other))
}

// far has for each set, by its bits, how many buttons it takes to make a goal of it; more than all sets if that is impossible.
type far struct {
	machine [][]int
	images  [][]int
	ways    []int
}

// farFrom finds them backwards: it shortens all ways until none can be shorter.
func farFrom(machine [][]int, isGoal func(code int) bool) far {
	sets := allSets(len(machine[0]))
	f := far{machine, make([][]int, len(machine)), make([]int, len(sets))}
	for button := range machine {
		for _, set := range sets {
			f.images[button] = append(f.images[button], codeOf(imageOf(machine, set, string(rune('a'+button)))))
		}
	}
	for code := range sets {
		f.ways[code] = len(sets)
		if code != 0 && isGoal(code) {
			f.ways[code] = 0
		}
	}
	for changed := true; changed; {
		changed = false
		for code := range sets {
			for button := range machine {
				if way := f.ways[f.images[button][code]] + 1; way < f.ways[code] {
					f.ways[code], changed = way, true
				}
			}
		}
	}
	return f
}

// firstWord goes to the goal by the first buttons that come nearer to it.
func (f far) firstWord(set []int) (string, bool) {
	code := codeOf(set)
	if f.ways[code] >= len(f.ways) {
		return "", false
	}
	word := ""
	for f.ways[code] > 0 {
		for button := range f.machine {
			if next := f.images[button][code]; f.ways[next] == f.ways[code]-1 {
				word, code = word+string(rune('a'+button)), next
				break
			}
		}
	}
	return word, true
}

// farFromFew is the way to sets of at most so many states.
func farFromFew(machine [][]int, many int) far {
	return farFrom(machine, func(code int) bool { return bits.OnesCount(uint(code)) <= many })
}

func copied(lists [][]int) [][]int {
	other := make([][]int, len(lists))
	for i, list := range lists {
		other[i] = slices.Clone(list)
	}
	return other
}

func wantErr(t *testing.T, what any, got, want api.Errno) {
	t.Helper()
	if got != want {
		t.Fatalf("%v: error %d, want %d", what, got, want)
	}
}

func slowOf(t *testing.T, n int) [][]int {
	t.Helper()
	machine, err := clock.Slow(n)
	wantErr(t, n, err, api.OK)
	return machine
}

func apartOf(t *testing.T, machine [][]int) []int {
	t.Helper()
	apart, err := clock.Apart(machine)
	wantErr(t, machine, err, api.OK)
	return apart
}

func imageFrom(t *testing.T, machine [][]int, set []int, word string) []int {
	t.Helper()
	image, err := clock.Image(machine, set, word)
	wantErr(t, machine, err, api.OK)
	return image
}

func rankOf(t *testing.T, machine [][]int) (int, string) {
	t.Helper()
	rank, word, err := clock.Rank(machine)
	wantErr(t, machine, err, api.OK)
	return rank, word
}

func isSame(t *testing.T, machine, other [][]int) bool {
	t.Helper()
	same, err := clock.Same(machine, other)
	wantErr(t, machine, err, api.OK)
	return same
}

// wantWord compares a word, or that there is none, with what a function returns.
func wantWord(t *testing.T, what any, got string, err api.Errno, want string, exists bool) {
	t.Helper()
	if exists && (got != want || err != api.OK) || !exists && (got != "" || err != api.ErrNone) {
		t.Fatalf("%v: %q %d, want %q %v", what, got, err, want, exists)
	}
}
