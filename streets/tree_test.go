package streets_test

import (
	"math/rand/v2"
	"slices"
	"testing"

	"lampbox/api"
	"lampbox/streets"
)

// P2.1, P2.5 (no spanning tree weighs less), P4.
func TestTree(t *testing.T) {
	for _, s := range testedNets() {
		tree, weight, err := streets.Tree(s.n, s.streets)
		best := s.smallest(s.trees())
		if len(best) == 0 {
			if err != api.ErrNone || len(tree) > 0 || weight != 0 {
				t.Fatalf("Tree(%v) = %v %d %d, but there is none", s, tree, weight, err)
			}
			continue
		}
		if want := sorted(s.taken()); err != api.OK || !slices.Equal(tree, want) || weight != s.weight(best[0]) {
			t.Fatalf("Tree(%v) = %v %d %d, want %v %d", s, tree, weight, err, want, s.weight(best[0]))
		}
	}
}

// P2.1: of equal streets the first ones are taken, whichever way round their ends are.
func TestTreeOfKnownNets(t *testing.T) {
	for _, x := range []struct {
		s      sample
		tree   []int
		weight int
	}{
		{square(), []int{0, 1, 2}, 6},
		{sample{n: 1}, nil, 0},
		{ring(3, 1000), []int{0, 1}, 2000},
		{ring(16, 0), []int{0, 1, 2, 3, 4, 5, 6, 7, 8, 9, 10, 11, 12, 13, 14}, 0},
		{path(4, 2, 3), []int{0, 2, 4}, 9},
		{path(2, 60, 9), []int{0}, 9},
		{sample{3, []api.Street{street(2, 1, 9), street(1, 2, 3), street(2, 1, 3), street(0, 2, 8), street(2, 0, 4)}}, []int{1, 4}, 7},
		{sample{4, []api.Street{street(3, 0, 4), street(2, 3, 3), street(1, 2, 2), street(0, 1, 1)}}, []int{1, 2, 3}, 6},
	} {
		tree, weight, err := streets.Tree(x.s.n, x.s.streets)
		if err != api.OK || weight != x.weight || !slices.Equal(tree, x.tree) {
			t.Errorf("Tree(%v) = %v %d %d, want %v %d", x.s, tree, weight, err, x.tree, x.weight)
		}
	}
}

func TestTreeOfGreatNets(t *testing.T) {
	for _, s := range greatNets() {
		tree, weight, err := streets.Tree(s.n, s.streets)
		if want := sorted(s.taken()); len(want) < s.n-1 {
			wantErr(t, "Tree", err, api.ErrNone)
		} else if err != api.OK || !slices.Equal(tree, want) || weight != s.weight(want) {
			t.Fatalf("Tree(%v) = %v %d %d, want %v", s, tree, weight, err, want)
		}
	}
}

// exchanged exchanges a street of a tree for another one, and fails if that is not possible.
func (s sample) exchanged(t *testing.T, tree []int, out, in int) []int {
	t.Helper()
	at := slices.Index(tree, out)
	if at < 0 || in < 0 || in >= len(s.streets) || slices.Contains(tree, in) {
		t.Fatalf("%v: %d for %d is no exchange in %v", s, out, in, tree)
	}
	result := slices.Clone(tree)
	result[at] = in
	slices.Sort(result)
	if !s.isTree(result) {
		t.Fatalf("%v: %d for %d makes no tree of %v", s, out, in, tree)
	}
	return result
}

// P2.1, P3.
func TestBetter(t *testing.T) {
	for _, s := range testedNets() {
		all := s.trees()
		best := s.smallest(all)
		for _, tree := range all {
			out, in, err := streets.Better(s.n, s.streets, tree)
			wantErr(t, "Better", err, api.OK)
			if s.weight(tree) == s.weight(best[0]) {
				if out != -1 || in != -1 {
					t.Fatalf("Better(%v, %v) = %d %d, but it is smallest", s, tree, out, in)
				}
				continue
			}
			if s.weight(s.exchanged(t, tree, out, in)) >= s.weight(tree) {
				t.Fatalf("Better(%v, %v) = %d %d is not better", s, tree, out, in)
			}
		}
	}
}

// anyTree takes the streets in a random order.
func (s sample) anyTree(r *rand.Rand) []int {
	var list []int
	for _, i := range r.Perm(len(s.streets)) {
		first := s.reachBy(list)
		if first[s.streets[i].A] != first[s.streets[i].B] {
			list = append(list, i)
		}
	}
	return sorted(list)
}

// P2.1: exchanges lead from every tree to a smallest one.
func TestBetterOfGreatNets(t *testing.T) {
	r := rand.New(rand.NewPCG(5, 6))
	for _, s := range greatNets() {
		tree := s.anyTree(r)
		if !s.isTree(tree) {
			_, _, err := streets.Better(s.n, s.streets, tree)
			wantErr(t, "Better of no tree", err, api.ErrArg)
			continue
		}
		for {
			out, in, err := streets.Better(s.n, s.streets, tree)
			wantErr(t, "Better", err, api.OK)
			if out == -1 && in == -1 {
				break
			}
			next := s.exchanged(t, tree, out, in)
			if s.weight(next) >= s.weight(tree) {
				t.Fatalf("Better(%v, %v) = %d %d is not better", s, tree, out, in)
			}
			tree = next
		}
		if _, weight, _ := streets.Tree(s.n, s.streets); s.weight(tree) != weight {
			t.Fatalf("Better(%v, %v) finds no exchange, but the weight is %d", s, tree, weight)
		}
	}
}

// P2.1: lists that are not spanning trees.
func TestBetterOfWrongTrees(t *testing.T) {
	for _, tree := range [][]int{
		nil, {}, {0}, {0, 1}, {0, 1, 2, 3}, {2, 1, 0}, {0, 2, 1}, {1, 0, 2}, {0, 0, 1}, {0, 1, 1}, {0, 1, 4}, {-1, 0, 1}, {0, 1, huge},
		{-huge - 1, 0, 1}, {0, 1, -1}, make([]int, 100000),
	} {
		s := square()
		out, in, err := streets.Better(s.n, s.streets, tree)
		wantErr(t, "Better", err, api.ErrArg)
		if out != 0 || in != 0 {
			t.Errorf("Better(%v) = %d %d with an error", tree, out, in)
		}
	}
	tailed := beside(ring(3, 1), sample{n: 1}, true)
	_, _, err := streets.Better(tailed.n, tailed.streets, []int{0, 1, 2})
	wantErr(t, "Better of a ring", err, api.ErrArg)
	double := path(3, 2, 1)
	_, _, err = streets.Better(double.n, double.streets, []int{0, 1})
	wantErr(t, "Better of two streets with the same ends", err, api.ErrArg)
	_, _, err = streets.Better(1, nil, []int{0})
	wantErr(t, "Better of one vertex and a street", err, api.ErrArg)
	out, in, err := streets.Better(1, nil, nil)
	if out != -1 || in != -1 || err != api.OK {
		t.Errorf("Better of one vertex = %d %d %d", out, in, err)
	}
	for _, s := range notConnected() {
		_, _, err := streets.Better(s.n, s.streets, sorted(s.taken()))
		wantErr(t, "Better of a net that is not connected", err, api.ErrArg)
	}
}

// P2.5: a further street never increases the weight of the first tree.
func TestFurtherStreets(t *testing.T) {
	for _, s := range greatNets() {
		last := -1
		for m := range len(s.streets) + 1 {
			_, weight, err := streets.Tree(s.n, s.streets[:m])
			if last >= 0 && (err != api.OK || weight > last) {
				t.Fatalf("Tree(%v) weighs %d with %d streets, %d without the last one: %d", s, weight, m, last, err)
			}
			if err == api.OK {
				last = weight
			}
		}
	}
}
