package sums_test

import (
	"math/rand/v2"
	"slices"
	"testing"

	"lampbox/api"
	"lampbox/sums"
)

func primes() []int {
	return []int{2, 3, 5, 7, 11, 13, 17, 19, 23, 29, 31, 37, 41, 43, 47, 53, 59, 61, 67, 71, 73, 79, 83, 89, 97}
}

// bothByTerms are the remainders that some sum has.
func bothByTerms(p int, a, b []int) []int {
	var all []int
	for _, x := range a {
		for _, y := range b {
			all = append(all, (x+y)%p)
		}
	}
	slices.Sort(all)
	return slices.Compact(all)
}

func wantBoth(t *testing.T, p int, a, b, want []int) {
	t.Helper()
	got, err := sums.Both(p, a, b)
	if err != api.OK || !slices.Equal(got, want) {
		t.Fatalf("Both(%d, %v, %v) = %v %d, want %v", p, a, b, got, err, want)
	}
	if len(got) < min(p, len(a)+len(b)-1) {
		t.Fatalf("Both(%d, %v, %v) has only %d numbers", p, a, b, len(got))
	}
}

// P5.4, P5.5: all sets of small primes, and random ones of all primes, in any order.
func TestBoth(t *testing.T) {
	for _, p := range []int{2, 3, 5, 7} {
		for _, a := range sets(p) {
			for _, b := range sets(p) {
				wantBoth(t, p, a, b, bothByTerms(p, a, b))
			}
		}
	}
	r := rand.New(rand.NewPCG(5, 5))
	for _, p := range primes() {
		for range 30 {
			a, b := r.Perm(p)[:1+r.IntN(p)], r.Perm(p)[:1+r.IntN(p)]
			wantBoth(t, p, a, b, bothByTerms(p, a, b))
			a, b = a[:min(len(a), 5)], b[:min(len(b), 5)]
			wantBoth(t, p, a, b, bothByTerms(p, a, b))
		}
	}
}

// sets are all non-empty sets of numbers from 0 to p - 1.
func sets(p int) [][]int {
	var all [][]int
	for many := 1; many <= p; many++ {
		all = append(all, parts(0, p, many)...)
	}
	return all
}

// P5.4, P5.5: two lists of following numbers have just as many sums as the bound says.
func TestBothOfFollowingNumbers(t *testing.T) {
	for _, p := range primes() {
		var all []int
		for number := range p {
			all = append(all, number)
		}
		for _, many := range []int{1, 2, (p + 1) / 2, p - 1, p} {
			many = min(max(many, 1), p)
			wantBoth(t, p, all[:many], all[:many], all[:min(p, 2*many-1)])
			wantBoth(t, p, all, all[p-many:], all)
		}
		wantBoth(t, p, []int{p - 1}, []int{p - 1}, []int{p - 2})
		wantBoth(t, p, []int{p - 1}, []int{1}, []int{0})
	}
}

// P5.4.
func TestBothOfKnownSets(t *testing.T) {
	for _, x := range []struct {
		p          int
		a, b, want []int
	}{
		{2, []int{0}, []int{0}, []int{0}},
		{2, []int{1}, []int{1}, []int{0}},
		{2, []int{1, 0}, []int{1}, []int{0, 1}},
		{5, []int{4, 0}, []int{3}, []int{2, 3}},
		{7, []int{1, 2, 4}, []int{0, 3}, []int{0, 1, 2, 4, 5}},
		{97, []int{96, 0}, []int{0, 96}, []int{0, 95, 96}},
	} {
		wantBoth(t, x.p, x.a, x.b, x.want)
	}
}

// P5.4: p first, then both lists.
func TestBothOfWrongArguments(t *testing.T) {
	for p := -5; p < 300; p++ {
		got, err := sums.Both(p, []int{0, 1}, []int{1})
		want := api.ErrArg
		if slices.Contains(primes(), p) {
			want = api.OK
		}
		if err != want || want != api.OK && len(got) != 0 {
			t.Errorf("Both(%d, ..) = %v %d", p, got, err)
		}
	}
	for _, p := range []int{huge, -huge - 1, 0, 1, 4, 91, -1, -2, -97, 1 << 32, 1<<32 + 2, 1<<61 - 1} {
		wantBothErr(t, p, []int{0}, []int{0})
	}
	for _, p := range primes() {
		for _, wrong := range notSets(p) {
			wantBothErr(t, p, wrong, []int{0, 1})
			wantBothErr(t, p, []int{0, 1}, wrong)
			wantBothErr(t, p, wrong, wrong)
		}
	}
}

func notSets(p int) [][]int {
	return [][]int{
		nil, {}, {p}, {0, p}, {p, 0}, {-1}, {0, -1}, {0, 0}, {1, 0, 1}, {0, 1, 1}, {huge}, {-huge - 1}, {0, huge}, {p + 1}, {2 * p},
		{97}, {98}, make([]int, p+1), make([]int, 1000000),
	}
}

func wantBothErr(t *testing.T, p int, a, b []int) {
	t.Helper()
	if got, err := sums.Both(p, a, b); err != api.ErrArg || len(got) != 0 {
		t.Errorf("Both(%d, %v, %v) = %v %d", p, a[:min(len(a), 5)], b[:min(len(b), 5)], got, err)
	}
}
