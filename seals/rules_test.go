package seals_test

import (
	"math/rand/v2"
	"reflect"
	"slices"
	"strings"
	"testing"

	"lampbox/api"
	"lampbox/seals"
)

// ofEven calls every function that takes even chains only, ofAll those that take all chains.
func ofEven(chain string, cuts []int, many int) ([]any, []api.Errno) {
	r1, e1 := seals.Fair(chain)
	r2, e2 := seals.Least(chain)
	e3 := seals.Check(chain, cuts)
	r4, e4 := seals.Ways(chain, many)
	r5, e5 := seals.Ring(chain)
	e6 := seals.CheckRing(chain, cuts)
	return []any{r1, r2, r4, r5}, []api.Errno{e1, e2, e3, e4, e5, e6}
}

func ofAll(chain string, cuts []int) ([]any, []api.Errno) {
	r1, r2, e1 := seals.Shares(chain, cuts)
	r3, e3 := seals.Halves(chain)
	return []any{r1, r2, r3}, []api.Errno{e1, e3}
}

// wantAllErr fails if not all errors are ErrArg, or one comes with a result.
func wantAllErr(t *testing.T, what string, results []any, errs []api.Errno) {
	t.Helper()
	for i, err := range errs {
		if err != api.ErrArg {
			t.Fatalf("%s: function %d: error %d", what, i, err)
		}
	}
	for i, r := range results {
		if v := reflect.ValueOf(r); v.Kind() == reflect.Slice && v.Len() > 0 || v.Kind() != reflect.Slice && !v.IsZero() {
			t.Fatalf("%s: result %d is %v with an error", what, i, r)
		}
	}
}

// A string that is not a chain is an error of every function (P1, rules 1 and 4).
func TestNotChains(t *testing.T) {
	for _, chain := range []string{
		"e", "ee", "`", "``", "A", "AA", " ", "aa ", " aa", "a a", "aa\n", "aa\x00\x00", "\xff\xff", "\x00", "aaee", "eeaa", "aabbccddee", "zz",
		"\u00e4\u00e4", "a,a", "1", "abcdabcd-", strings.Repeat("a", 25), strings.Repeat("a", 26), strings.Repeat("abcd", 7),
		strings.Repeat("e", 24), strings.Repeat("aabb", 6) + "e", strings.Repeat("ab", 3000000), strings.Repeat("a", 23) + "x",
	} {
		for _, cuts := range [][]int{nil, {}, {1}, {0, 1}, {-1}, {12}} {
			what := chain[:min(len(chain), 30)]
			results, errs := ofEven(chain, cuts, 1)
			wantAllErr(t, what, results, errs)
			results, errs = ofAll(chain, cuts)
			wantAllErr(t, what, results, errs)
		}
	}
}

// Of all bytes just the four letters are seals.
func TestAllBytes(t *testing.T) {
	for b := range 256 {
		chain := string([]byte{byte(b), byte(b)})
		isSeal := b >= 'a' && b <= 'd'
		if _, err := seals.Least(chain); isSeal != (err == api.OK) {
			t.Errorf("Least(%q): error %d", chain, err)
		}
		if _, err := seals.Halves(chain); isSeal != (err == api.OK) {
			t.Errorf("Halves(%q): error %d", chain, err)
		}
	}
}

// A chain that is not even is an error of all functions but Shares and Halves.
func TestNotEven(t *testing.T) {
	chains := []string{strings.Repeat("a", 23), strings.Repeat("abcd", 5), strings.Repeat("a", 22) + "bc", strings.Repeat("c", 23) + "d", "abcdabc"}
	for length := range 6 {
		chains = append(chains, strings4(length)...)
	}
	for _, chain := range chains {
		isEven := even(chain)
		results, errs := ofEven(chain, nil, 1)
		if !isEven {
			wantAllErr(t, chain, results, errs)
		} else if errs[0] != api.OK || errs[1] != api.OK || errs[3] != api.OK || errs[4] != api.OK {
			t.Fatalf("%s: errors %v", chain, errs)
		}
		if _, errs := ofAll(chain, nil); errs[0] != api.OK || errs[1] != api.OK {
			t.Fatalf("%s: errors %v", chain, errs)
		}
	}
}

// P2, rule 5: a second call returns the same; arguments stay as they are; results are new memory.
func TestCallsLeaveNothingBehind(t *testing.T) {
	for _, chain := range slices.Concat(shortChains()[:500], longChains()) {
		cuts, _ := seals.Least(chain)
		before := slices.Clone(cuts)
		all := func() []any {
			r, e := ofEven(chain, cuts, 2)
			s, f := ofAll(chain, cuts)
			return slices.Concat(r, s, []any{e, f})
		}
		first, kept := all(), all()
		if !reflect.DeepEqual(first, kept) {
			t.Fatalf("two calls differ: %v, %v", first, kept)
		}
		for _, r := range first {
			if l, ok := r.([]int); ok {
				for i := range l[:cap(l)] {
					l[:cap(l)][i] = -7
				}
			}
		}
		if again := all(); !reflect.DeepEqual(again, kept) || !slices.Equal(cuts, before) {
			t.Fatalf("results or arguments share memory: %v, %v, %v", again, kept, cuts)
		}
	}
}

// A list with more room than it needs: nothing is written behind its end.
func TestRoomOfArguments(t *testing.T) {
	list := []int{1, 3, 77, 78}
	cuts := list[:2]
	seals.Shares("aabb", cuts)
	seals.Check("aabb", cuts)
	seals.CheckRing("aabb", cuts)
	if !slices.Equal(list, []int{1, 3, 77, 78}) {
		t.Errorf("the list is %v after the calls", list)
	}
}

func least(t *testing.T, chain string) []int {
	t.Helper()
	cuts, err := seals.Least(chain)
	wantErr(t, chain, err, api.OK)
	return cuts
}

func ring(t *testing.T, chain string) []int {
	t.Helper()
	cuts, err := seals.Ring(chain)
	wantErr(t, chain, err, api.OK)
	return cuts
}

// P4.5: at most one cut for each kind; of a ring, rounded up to an even number.
func TestFewCuts(t *testing.T) {
	for _, chain := range slices.Concat(shortChains(), longChains(), together()) {
		k := kinds(chain)
		if many := len(least(t, chain)); many > k {
			t.Fatalf("Least(%s) has %d cuts", chain, many)
		}
		if many := len(ring(t, chain)); many > k+k%2 {
			t.Fatalf("Ring(%s) has %d cuts", chain, many)
		}
	}
}

// P4.5: if all seals of each letter stand together, just one cut for each kind is needed.
func TestTogether(t *testing.T) {
	for _, chain := range together() {
		if many := len(least(t, chain)); many != kinds(chain) {
			t.Errorf("Least(%s) has %d cuts", chain, many)
		}
		for many := range kinds(chain) {
			if ways, err := seals.Ways(chain, many); err != api.OK || ways != 0 {
				t.Errorf("Ways(%s, %d) = %d %d", chain, many, ways, err)
			}
		}
	}
}

// P4.5: the fair cuts of a reversed chain are those of the chain, from its end.
func TestReversed(t *testing.T) {
	for _, chain := range slices.Concat(shortChains(), longChains(), together()) {
		back := reversed(chain)
		for many := range api.MaxCuts + 1 {
			ways, err := seals.Ways(chain, many)
			wantErr(t, chain, err, api.OK)
			if again, err := seals.Ways(back, many); err != api.OK || again != ways {
				t.Fatalf("Ways(%s, %d) = %d %d, but %d of the chain", back, many, again, err, ways)
			}
		}
		cuts := least(t, chain)
		slices.Reverse(cuts)
		for i, at := range cuts {
			cuts[i] = len(chain) - at
		}
		wantErr(t, back, seals.Check(back, cuts), api.OK)
		if len(least(t, back)) != len(cuts) {
			t.Fatalf("%s needs not as many cuts as %s", back, chain)
		}
	}
}

// P4.5: other letters change no number of cuts; the cuts stay where they are.
func TestRenamed(t *testing.T) {
	r := rand.New(rand.NewPCG(5, 5))
	for _, chain := range slices.Concat(shortChains(), longChains(), together()) {
		names := shuffled(r, "abcd")
		renamed := strings.NewReplacer("a", names[:1], "b", names[1:2], "c", names[2:3], "d", names[3:]).Replace(chain)
		if cuts, others := least(t, chain), least(t, renamed); !slices.Equal(cuts, others) {
			t.Fatalf("Least(%s) = %v, Least(%s) = %v", chain, cuts, renamed, others)
		}
		if cuts, others := ring(t, chain), ring(t, renamed); !slices.Equal(cuts, others) {
			t.Fatalf("Ring(%s) = %v, Ring(%s) = %v", chain, cuts, renamed, others)
		}
		for many := range api.MaxCuts + 1 {
			ways, _ := seals.Ways(chain, many)
			if others, err := seals.Ways(renamed, many); err != api.OK || others != ways {
				t.Fatalf("Ways(%s, %d) = %d %d, but %d of %s", renamed, many, others, err, ways, chain)
			}
		}
	}
}
