package forks_test

import (
	"math/rand/v2"
	"slices"
	"testing"

	"lampbox/api"
	"lampbox/forks"
)

// P3.3, P3.6 (vectors): a is below b if turning right leads there, and exactly if no entry of its vector is greater.
func TestBelow(t *testing.T) {
	for n := range 7 {
		above := order(n)
		for a := range above {
			for b := range above {
				_, want := above[a][b]
				if got, err := forks.Below(a, b); err != api.OK || got != want {
					t.Fatalf("Below(%s, %s) = %v %d, want %v", a, b, got, err, want)
				}
				v, w := must[[]int](t)(forks.Vector(a)), must[[]int](t)(forks.Vector(b))
				noGreater := true
				for i := range v {
					noGreater = noGreater && v[i] <= w[i]
				}
				if noGreater != want {
					t.Fatalf("%s has the vector %v, %s %v, but Below is %v", a, v, b, w, want)
				}
			}
		}
	}
}

// P3.3: trees that turning leads to, and others, with the most forks.
func TestBelowOfGreatTrees(t *testing.T) {
	r := rand.New(rand.NewPCG(1, 2))
	for range 300 {
		a := randomTree(r, api.MaxForks)
		above := distances(a, true)
		for range 20 {
			b := randomTree(r, api.MaxForks)
			_, want := above[b]
			if below(t, a, b) != want {
				t.Fatalf("Below(%s, %s) is not %v", a, b, want)
			}
		}
		for b := range above {
			if !below(t, a, b) {
				t.Fatalf("%s is not below %s", a, b)
			}
		}
	}
}

// P3.3: the meet is the tree below both that all others below both are below, the join the same from above.
func TestMeetAndJoin(t *testing.T) {
	for n := range 6 {
		above := order(n)
		isBelow := func(a, b string) bool {
			_, ok := above[a][b]
			return ok
		}
		for a := range above {
			for b := range above {
				m, j := meet(t, a, b), join(t, a, b)
				if !isBelow(m, a) || !isBelow(m, b) {
					t.Fatalf("Meet(%s, %s) = %s is not below both", a, b, m)
				}
				if !isBelow(a, j) || !isBelow(b, j) {
					t.Fatalf("Join(%s, %s) = %s is not above both", a, b, j)
				}
				for c := range above {
					if isBelow(c, a) && isBelow(c, b) && !isBelow(c, m) {
						t.Fatalf("Meet(%s, %s) = %s is not above %s", a, b, m, c)
					}
					if isBelow(a, c) && isBelow(b, c) && !isBelow(j, c) {
						t.Fatalf("Join(%s, %s) = %s is not below %s", a, b, j, c)
					}
				}
			}
		}
	}
}

// P3.3.
func TestMeetAndJoinOfKnownTrees(t *testing.T) {
	for _, x := range []struct{ a, b, meet, join string }{
		{".", ".", ".", "."},
		{"(..)", "(..)", "(..)", "(..)"},
		{"((..).)", "(.(..))", "((..).)", "(.(..))"},
		{"((..)(..))", "((.(..)).)", "(((..).).)", "(.(.(..)))"},
		{"((..)(..))", "(.((..).))", "(((..).).)", "(.(.(..)))"},
		{"((.(..)).)", "(.((..).))", "((.(..)).)", "(.((..).))"},
		{leftChain(10), rightChain(10), leftChain(10), rightChain(10)},
	} {
		if m, j := meet(t, x.a, x.b), join(t, x.a, x.b); m != x.meet || j != x.join {
			t.Errorf("Meet, Join(%s, %s) = %s, %s, want %s, %s", x.a, x.b, m, j, x.meet, x.join)
		}
	}
}

// P3.6: Meet and Join are commutative and associative, and absorb each other; mirroring turns the order around.
func TestLattice(t *testing.T) {
	r := rand.New(rand.NewPCG(3, 4))
	for i := range 3000 {
		n := i % (api.MaxForks + 1)
		a, b, c := randomTree(r, n), randomTree(r, n), randomTree(r, n)
		for _, op := range []func(*testing.T, string, string) string{meet, join} {
			if op(t, a, b) != op(t, b, a) {
				t.Fatalf("not commutative: %s %s", a, b)
			}
			if op(t, a, op(t, b, c)) != op(t, op(t, a, b), c) {
				t.Fatalf("not associative: %s %s %s", a, b, c)
			}
			if op(t, a, a) != a {
				t.Fatalf("not idempotent: %s", a)
			}
		}
		if meet(t, a, join(t, a, b)) != a || join(t, a, meet(t, a, b)) != a {
			t.Fatalf("not absorbed: %s %s", a, b)
		}
		m := meet(t, a, b)
		if !below(t, m, a) || !below(t, m, b) || below(t, a, b) != (m == a) {
			t.Fatalf("Meet(%s, %s) = %s does not fit Below", a, b, m)
		}
		if mirror(t, m) != join(t, mirror(t, a), mirror(t, b)) || below(t, a, b) != below(t, mirror(t, b), mirror(t, a)) {
			t.Fatalf("mirroring does not turn the order around: %s %s", a, b)
		}
	}
}

// mostTurns has for each tree that turning right leads to from one the greatest number of such turns.
func mostTurns(tree string) map[string]int {
	most := map[string]int{}
	var ordered []string
	for t := range distances(tree, true) {
		ordered = append(ordered, t)
	}
	// The sum of its vector grows with each turn to the right.
	slices.SortFunc(ordered, func(a, b string) int { return sum(vectorByTerms(a)) - sum(vectorByTerms(b)) })
	for _, t := range ordered {
		for _, next := range turns(t, true) {
			most[next] = max(most[next], most[t]+1)
		}
	}
	return most
}

func sum(list []int) int {
	total := 0
	for _, k := range list {
		total += k
	}
	return total
}

// P3.3.
func TestLongest(t *testing.T) {
	for n := range 7 {
		trees := allTrees(n)
		for _, a := range trees {
			above, most := distances(a, true), mostTurns(a)
			for _, b := range trees {
				want, wantErr := most[b], api.OK
				if _, ok := above[b]; !ok {
					want, wantErr = 0, api.ErrNone
				}
				if got, err := forks.Longest(a, b); got != want || err != wantErr {
					t.Fatalf("Longest(%s, %s) = %d %d, want %d %d", a, b, got, err, want, wantErr)
				}
			}
		}
	}
}

// P3.3: with the most forks.
func TestLongestOfGreatTrees(t *testing.T) {
	r := rand.New(rand.NewPCG(5, 6))
	for i := range 20 {
		a := randomTree(r, api.MaxForks)
		most := mostTurns(a)
		var ends []string
		for b := range most {
			ends = append(ends, b)
		}
		slices.Sort(ends)
		for k := 0; k < 20 && len(ends) > 0; k++ {
			b := ends[(i*977+k*k*131)%len(ends)]
			if got, err := forks.Longest(a, b); got != most[b] || err != api.OK {
				t.Fatalf("Longest(%s, %s) = %d %d, want %d", a, b, got, err, most[b])
			}
		}
	}
}

// P3.3: the whole order has n (n - 1) / 2 turns.
func TestLongestOfKnownTrees(t *testing.T) {
	for n := range api.MaxForks + 1 {
		if got, err := forks.Longest(leftChain(n), rightChain(n)); got != n*(n-1)/2 || err != api.OK {
			t.Errorf("Longest of %d forks = %d %d", n, got, err)
		}
		if got, err := forks.Longest(rightChain(n), rightChain(n)); got != 0 || err != api.OK {
			t.Errorf("Longest of %d forks and none to turn = %d %d", n, got, err)
		}
	}
	for _, x := range []struct {
		a, b string
		want int
		err  api.Errno
	}{
		{"(((..).).)", "(.(.(..)))", 3, api.OK},
		{"((..)(..))", "(.(.(..)))", 1, api.OK},
		{"((.(..)).)", "(.(.(..)))", 2, api.OK},
		{"(.(.(..)))", "(((..).).)", 0, api.ErrNone},
		{"((..)(..))", "(.((..).))", 0, api.ErrNone},
	} {
		if got, err := forks.Longest(x.a, x.b); got != x.want || err != x.err {
			t.Errorf("Longest(%s, %s) = %d %d, want %d %d", x.a, x.b, got, err, x.want, x.err)
		}
	}
}
