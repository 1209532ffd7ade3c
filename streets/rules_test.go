package streets_test

import (
	"reflect"
	"slices"
	"testing"

	"lampbox/api"
	"lampbox/streets"
)

// results calls every function of the package; what it returns holds all that they return.
func results(s sample, tree []int, u, v, k int) []any {
	tree1, weight1, err1 := streets.Tree(s.n, s.streets)
	out2, in2, err2 := streets.Better(s.n, s.streets, tree)
	slack3, err3 := streets.Slack(s.n, s.streets)
	second4, err4 := streets.Second(s.n, s.streets)
	count5, err5 := streets.Count(s.n, s.streets)
	narrow6, err6 := streets.Narrow(s.n, s.streets, u, v)
	group7, least7, err7 := streets.Groups(s.n, s.streets, k)
	all8, none8, err8 := streets.Critical(s.n, s.streets)
	return []any{
		err1, err2, err3, err4, err5, err6, err7, err8,
		tree1, slack3, group7, all8, none8,
		weight1, out2, in2, second4, count5, narrow6, least7,
	}
}

// Every function first returns ErrArg if n and streets are not a net, and zero values with it (P1, rules 1, 2 and 4).
func TestNotNets(t *testing.T) {
	for _, s := range notNets() {
		for _, tree := range [][]int{nil, {0, 1}, {1, 0}} {
			for i, r := range results(s, tree, 0, 0, 1) {
				if err, ok := r.(api.Errno); ok {
					wantErr(t, "not a net", err, api.ErrArg)
				} else if v := reflect.ValueOf(r); v.Kind() == reflect.Slice && v.Len() > 0 || v.Kind() != reflect.Slice && !v.IsZero() {
					t.Errorf("n %d, %d streets: result %d is %v with an error", s.n, len(s.streets), i, r)
				}
			}
		}
	}
}

// The limits themselves are allowed.
func TestGreatestNets(t *testing.T) {
	for _, s := range []sample{
		bipartite(6, 10, api.MaxWeight), bipartite(10, 6, 0), path(2, api.MaxStreets, 0), path(16, 4, api.MaxWeight),
		{16, append(path(16, 1, 1).streets, street(15, 0, 1000), street(0, 15, 0))},
	} {
		tree, _, _ := streets.Tree(s.n, s.streets)
		for i, r := range results(s, tree, s.n-1, 0, s.n)[:8] {
			if r != api.OK {
				t.Errorf("n %d, %d streets: function %d returns %d", s.n, len(s.streets), i, r)
			}
		}
	}
}

// spoil overwrites all lists of the results, and what lies behind them.
func spoil(rs []any) {
	for _, r := range rs {
		if l, ok := r.([]int); ok {
			l = l[:cap(l)]
			for i := range l {
				l[i] = -7
			}
		}
	}
}

// P2, rule 5: a second call returns the same; arguments stay as they are; results are new memory.
func TestCallsLeaveNothingBehind(t *testing.T) {
	for _, s := range slices.Concat(randomNets(), greatNets(), notConnected()) {
		tree := sorted(s.taken())
		given, treeBefore := slices.Clone(s.streets), slices.Clone(tree)
		first := results(s, tree, 0, s.n-1, s.n/2+1)
		kept := results(s, tree, 0, s.n-1, s.n/2+1)
		if !reflect.DeepEqual(first, kept) {
			t.Fatalf("two calls differ: %v, %v", first, kept)
		}
		spoil(first)
		if !slices.Equal(s.streets, given) || !slices.Equal(tree, treeBefore) {
			t.Fatalf("an argument of %v has changed", s)
		}
		if again := results(s, tree, 0, s.n-1, s.n/2+1); !reflect.DeepEqual(again, kept) {
			t.Fatalf("results share memory: %v, %v", again, kept)
		}
	}
}

// Lists may be nil or empty.
func TestNilAndEmpty(t *testing.T) {
	for _, n := range []int{1, 2, 16} {
		x := results(sample{n, nil}, nil, 0, 0, 1)
		y := results(sample{n, []api.Street{}}, []int{}, 0, 0, 1)
		for i := range x {
			l, ok := x[i].([]int)
			if ok && !slices.Equal(l, y[i].([]int)) || !ok && x[i] != y[i] {
				t.Errorf("n %d: result %d is %v for nil, %v for an empty list", n, i, x[i], y[i])
			}
		}
	}
}
