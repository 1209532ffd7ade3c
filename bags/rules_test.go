package bags_test

import (
	"math/rand/v2"
	"reflect"
	"slices"
	"testing"

	"lampbox/api"
	"lampbox/bags"
)

// results calls every function of the package; what it returns holds all that they return.
func results(s sample, set []int, share [][2]int, heads []int) []any {
	set1, f1, share1, err1 := bags.Densest(s.n, s.edges)
	err2 := bags.Check(s.n, s.edges, set, share)
	f3, err3 := bags.Density(s.n, s.edges, set)
	heads4, proof4, err4 := bags.Orient(s.n, s.edges)
	height5, err5 := bags.Height(s.n, s.edges, heads)
	cores6, err6 := bags.Cores(s.n, s.edges)
	order7, most7, err7 := bags.Peel(s.n, s.edges)
	return []any{
		err1, err2, err3, err4, err5, err6, err7,
		set1, share1, heads4, proof4, cores6, order7,
		f1, f3, height5, most7,
	}
}

// Every function first returns ErrArg if n and edges are not a graph, and zero values with it (P1, rules 1, 2 and 4).
func TestNotGraphs(t *testing.T) {
	for _, s := range notGraphs() {
		for _, set := range [][]int{nil, {0}, {1, 0}} {
			share := make([][2]int, len(s.edges))
			heads := make([]int, len(s.edges))
			for i, r := range results(s, set, share, heads) {
				if err, ok := r.(api.Errno); ok {
					wantErr(t, "not a graph", err, api.ErrArg)
				} else if v := reflect.ValueOf(r); v.Kind() == reflect.Slice && v.Len() > 0 || v.Kind() != reflect.Slice && !v.IsZero() {
					t.Errorf("n %d, %d edges: result %d is %v with an error", s.n, len(s.edges), i, r)
				}
			}
		}
	}
}

// The limits themselves are allowed.
func TestGreatestGraphs(t *testing.T) {
	for _, s := range []sample{{n: 1}, {n: api.MaxCorners}, complete(api.MaxCorners), {16, []api.Edge{{A: 14, B: 15}}}} {
		heads, _, _ := bags.Orient(s.n, s.edges)
		set, _, share, _ := bags.Densest(s.n, s.edges)
		for i, r := range results(s, set, share, heads)[:7] {
			if r != api.OK {
				t.Errorf("n %d, %d edges: function %d returns %d", s.n, len(s.edges), i, r)
			}
		}
	}
}

// spoil overwrites all lists of the results.
func spoil(rs []any) {
	for _, r := range rs {
		switch l := r.(type) {
		case []int:
			for i := range l {
				l[i] = -7
			}
		case [][2]int:
			for i := range l {
				l[i] = [2]int{-7, -7}
			}
		}
	}
}

// P2, rule 5: a second call returns the same; arguments stay as they are; results are new memory.
func TestCallsLeaveNothingBehind(t *testing.T) {
	for _, s := range append(randomGraphs(), namedGraphs()...) {
		heads, _, _ := bags.Orient(s.n, s.edges)
		set, _, share, _ := bags.Densest(s.n, s.edges)
		edges, setBefore, shareBefore, headsBefore := slices.Clone(s.edges), slices.Clone(set), slices.Clone(share), slices.Clone(heads)
		first := results(s, set, share, heads)
		kept := results(s, set, share, heads)
		if !reflect.DeepEqual(first, kept) {
			t.Fatalf("two calls differ: %v, %v", first, kept)
		}
		spoil(first)
		if !slices.Equal(s.edges, edges) || !slices.Equal(set, setBefore) || !slices.Equal(share, shareBefore) || !slices.Equal(heads, headsBefore) {
			t.Fatalf("an argument of %v has changed", s)
		}
		if again := results(s, set, share, heads); !reflect.DeepEqual(again, kept) {
			t.Fatalf("results share memory: %v, %v", again, kept)
		}
	}
}

func density(t *testing.T, s sample) api.Frac {
	t.Helper()
	_, f, _, err := bags.Densest(s.n, s.edges)
	wantErr(t, "Densest", err, api.OK)
	return f
}

// P1.4, P5: the bounds by Peel and Cores.
func TestBoundsOfDensity(t *testing.T) {
	for _, s := range allGraphs() {
		f := density(t, s)
		_, most, _ := bags.Peel(s.n, s.edges)
		cores, _ := bags.Cores(s.n, s.edges)
		if 2*f.Num < most*f.Den || f.Num > most*f.Den {
			t.Fatalf("%v: density %v, Peel %d", s, f, most)
		}
		if slices.Max(cores) != most {
			t.Fatalf("%v: cores %v, Peel %d", s, cores, most)
		}
	}
}

// P1.4, P5: a further edge never decreases the density.
func TestFurtherEdges(t *testing.T) {
	r := rand.New(rand.NewPCG(2, 2))
	for n := 2; n <= api.MaxCorners; n++ {
		all := randomGraph(r, n, 100)
		last := api.Frac{Num: 0, Den: 1}
		for i := range len(all.edges) + 1 {
			f := density(t, sample{n, all.edges[:i]})
			if compare(f, last) < 0 {
				t.Fatalf("n %d, edges %v: density %v after %v", n, all.edges[:i], f, last)
			}
			last = f
		}
	}
}

// P1.4, P5: the density of a graph with parts that are not connected is that of one of them.
func TestPartsThatAreNotConnected(t *testing.T) {
	r := rand.New(rand.NewPCG(3, 3))
	for range 200 {
		x := randomGraph(r, 1+r.IntN(8), r.IntN(101))
		y := randomGraph(r, 1+r.IntN(8), r.IntN(101))
		want := density(t, x)
		if f := density(t, y); compare(f, want) > 0 {
			want = f
		}
		if f := density(t, beside(x, y)); f != want {
			t.Fatalf("%v and %v: density %v, want %v", x, y, f, want)
		}
	}
}
