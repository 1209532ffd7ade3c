package clock_test

import (
	"math/rand/v2"
	"reflect"
	"slices"
	"testing"

	"lampbox/api"
	"lampbox/clock"
)

// results calls every function that receives a machine, and returns all that they return.
func results(machine, other [][]int, p, q int, set, to []int, word string) ([]any, []api.Errno) {
	r1, state, e1 := clock.Reset(machine)
	r2, e2 := clock.Merge(machine, p, q)
	r3, e3 := clock.Apart(machine)
	r4, e4 := clock.Image(machine, set, word)
	r5, rank, e5 := clock.Rank(machine)
	r6, e6 := clock.Lead(machine, set, to)
	r7, e7 := clock.Same(machine, other)
	r8, e8 := clock.Greedy(machine)
	return []any{r1, state, r2, r3, r4, r5, rank, r6, r7, r8}, []api.Errno{e1, e2, e3, e4, e5, e6, e7, e8}
}

func wantZero(t *testing.T, what any, rs []any) {
	t.Helper()
	for i, r := range rs {
		if v := reflect.ValueOf(r); v.Kind() == reflect.Slice && v.Len() > 0 || v.Kind() != reflect.Slice && !v.IsZero() {
			t.Fatalf("%v: result %d is %v with an error", what, i, r)
		}
	}
}

// wantNoMachine fails if not every function returns ErrArg alone, with good and with wrong further arguments.
func wantNoMachine(t *testing.T, machine [][]int) {
	t.Helper()
	good := [][]int{{0}}
	for _, p := range []int{0, -1, 9} {
		for _, set := range [][]int{{0}, nil, {-1}, {1, 0}} {
			for _, other := range [][][]int{good, nil, machine} {
				rs, errs := results(machine, other, p, 0, set, set, "a")
				wantZero(t, len(machine), rs)
				if !slices.Equal(errs, slices.Repeat([]api.Errno{api.ErrArg}, 8)) {
					t.Fatalf("no machine of %d buttons: %v", len(machine), errs)
				}
			}
		}
	}
	same, err := clock.Same(good, machine)
	wantErr(t, len(machine), err, api.ErrArg)
	if same {
		t.Fatalf("Same with no machine of %d buttons", len(machine))
	}
}

// P10.1 to P10.4: machines need 1 to 4 buttons, 1 to 9 states, and for each button one list of them.
func TestWrongSizes(t *testing.T) {
	for _, machine := range [][][]int{nil, {}, {nil}, {{}}, {nil, {}}, {{}, {0}}, {{0}, nil}, {{0}, {0, 0}}, {{0, 0}, {0}}, {{0, 1}, {1, 0}, {0}}, {{0, 1, 2}, {0, 1, 2}, {0, 1, 2}, {0, 1, 2, 0}}} {
		wantNoMachine(t, machine)
	}
	for n := 1; n <= api.MaxStates; n++ {
		for _, many := range []int{5, 6, 8, 16, 256, 1000000} {
			wantNoMachine(t, slices.Repeat([][]int{make([]int, n)}, many))
		}
	}
	for _, n := range []int{10, 11, 16, 17, 64, 256, 1000000} {
		for k := 1; k <= 5; k++ {
			wantNoMachine(t, slices.Repeat([][]int{make([]int, n)}, k))
		}
	}
}

// P10.1 to P10.4: a machine that is changed at one place.
func TestChangedMachines(t *testing.T) {
	for _, machine := range slices.Concat(slowOnes(t), randomMachines(1)) {
		n := len(machine[0])
		for button := range machine {
			changed := copied(machine)
			changed[button] = append(changed[button], 0)
			if n == api.MaxStates || len(machine) > 1 {
				wantNoMachine(t, changed)
			}
			changed[button] = changed[button][:n-1]
			if n == 1 || len(machine) > 1 {
				wantNoMachine(t, changed)
			}
			for _, wrong := range []int{-1, n, n + 1, 16, 64, 1 << 32, huge, -huge - 1} {
				changed := copied(machine)
				changed[button][(button+wrong&15)%n] = wrong
				wantNoMachine(t, changed)
			}
		}
	}
}

// P10.1 to P10.4: a state that is not one may stand at any position.
func TestWrongStatesEverywhere(t *testing.T) {
	for n := 1; n <= api.MaxStates; n++ {
		for position := range n {
			for _, wrong := range []int{-1, n} {
				for button := range 2 {
					machine := slowOf(t, n)
					machine[button][position] = wrong
					wantNoMachine(t, machine)
				}
			}
		}
	}
}

// Rule 4: with ErrNone every other result is its zero value.
func TestNoneIsZero(t *testing.T) {
	for _, machine := range [][][]int{{{1, 0}}, {{1, 2, 0}}, {{0, 0, 2}}, {{0, 1}, {1, 0}}} {
		word, state, err := clock.Reset(machine)
		wantErr(t, machine, err, api.ErrNone)
		merge, err := clock.Merge(machine, 0, len(machine[0])-1)
		wantErr(t, machine, err, api.ErrNone)
		lead, err := clock.Lead(machine, statesOf(machine), []int{len(machine[0]) - 1})
		wantErr(t, machine, err, api.ErrNone)
		greedy, err := clock.Greedy(machine)
		wantErr(t, machine, err, api.ErrNone)
		wantZero(t, machine, []any{word, state, merge, lead, greedy})
	}
}

// scratch writes over a list of states, also in the room behind its end.
func scratch(result any) {
	if list, ok := result.([]int); ok {
		list = list[:cap(list)]
		for i := range list {
			list[i] = -7
		}
	}
}

// P2, rule 5: a second call returns the same; arguments stay as they are; results are new memory.
func TestCallsLeaveNothingBehind(t *testing.T) {
	r := rand.New(rand.NewPCG(10, 8))
	for _, machine := range someMachines(t) {
		n := len(machine[0])
		sets := allSets(n)[1:]
		p, q, set, to := r.IntN(n), r.IntN(n), slices.Clone(sets[r.IntN(len(sets))]), slices.Clone(sets[r.IntN(len(sets))])
		other := renamed(machine, r.Perm(n))
		word := randomWord(r, len(machine), r.IntN(9))
		before := []any{copied(machine), copied(other), slices.Clone(set), slices.Clone(to)}
		first, errs := results(machine, other, p, q, set, to, word)
		kept, _ := results(machine, other, p, q, set, to, word)
		if !reflect.DeepEqual(first, kept) {
			t.Fatalf("two calls differ: %v, %v", first, kept)
		}
		for _, result := range first {
			scratch(result)
		}
		again, errsAgain := results(machine, other, p, q, set, to, word)
		if !reflect.DeepEqual(again, kept) || !slices.Equal(errs, errsAgain) {
			t.Fatalf("results share memory: %v, %v", again, kept)
		}
		if !reflect.DeepEqual([]any{machine, other, set, to}, before) {
			t.Fatalf("an argument has changed: %v", before)
		}
	}
}

// Rule 5: Image and Apart return new lists, not the given ones; the lists of Slow share no memory.
func TestResultsAreNew(t *testing.T) {
	set := []int{0, 2}
	for _, word := range []string{"", "aaa"} {
		scratch(imageFrom(t, slowOf(t, 3), set, word))
		if !slices.Equal(set, []int{0, 2}) {
			t.Fatalf("the image is the given set")
		}
	}
	for n := 1; n <= api.MaxStates; n++ {
		slow := slowOf(t, n)
		scratch(slow[0])
		if other := slowOf(t, n); !slices.Equal(slow[1], other[1]) || slices.Equal(slow[0], other[0]) {
			t.Fatalf("the lists of Slow(%d) share memory", n)
		}
	}
	apart := apartOf(t, [][]int{{1, 0}})
	scratch(apart)
	if again := apartOf(t, [][]int{{1, 0}}); !slices.Equal(again, []int{0, 1}) {
		t.Fatalf("Apart returns the same memory again: %v", again)
	}
}

// Rule 5: the room behind the end of an argument's lists is left alone.
func TestRoomBehindArguments(t *testing.T) {
	button, set := []int{1, 1, 91, 92}, []int{0, 1, 93, 94}
	machine := [][]int{button[:2], {0, 0}, {95, 96}}
	results(machine[:2], machine[:2], 0, 1, set[:1], set[:2], "ab")
	if !slices.Equal(button, []int{1, 1, 91, 92}) || !slices.Equal(set, []int{0, 1, 93, 94}) || !slices.Equal(machine[2], []int{95, 96}) {
		t.Errorf("written behind an argument: %v %v %v", button, set, machine)
	}
}
