package forks_test

import (
	"slices"
	"testing"

	"lampbox/api"
	"lampbox/forks"
)

// P3.1.
func TestVector(t *testing.T) {
	for n := range api.MaxForks + 1 {
		for _, tree := range allTrees(n) {
			vector, err := forks.Vector(tree)
			if want := vectorByTerms(tree); err != api.OK || !slices.Equal(vector, want) {
				t.Fatalf("Vector(%s) = %v %d, want %v", tree, vector, err, want)
			}
			if back, err := forks.Tree(vector); err != api.OK || back != tree {
				t.Fatalf("Tree(%v) = %s %d, want %s", vector, back, err, tree)
			}
		}
	}
}

// P3.1: the examples of the chapter, and the ends of the order.
func TestVectorOfKnownTrees(t *testing.T) {
	for tree, want := range map[string][]int{
		".":                      nil,
		"(..)":                   {0},
		"((..).)":                {0, 0},
		"(.(..))":                {1, 0},
		"((..)(..))":             {0, 1, 0},
		"((.(..)).)":             {1, 0, 0},
		"(.((..).))":             {2, 0, 0},
		"((.(..))((..)(.(..))))": {1, 0, 4, 0, 2, 1, 0},
		leftChain(10):            make([]int, 10),
		rightChain(10):           {9, 8, 7, 6, 5, 4, 3, 2, 1, 0},
	} {
		if vector, err := forks.Vector(tree); err != api.OK || !slices.Equal(vector, want) {
			t.Errorf("Vector(%s) = %v %d, want %v", tree, vector, err, want)
		}
		if got, err := forks.Tree(want); err != api.OK || got != tree {
			t.Errorf("Tree(%v) = %s %d, want %s", want, got, err, tree)
		}
	}
}

// lists are all lists of n numbers from -1 to n.
func lists(n int) [][]int {
	all := [][]int{nil}
	for range n {
		var longer [][]int
		for _, l := range all {
			for k := -1; k <= n; k++ {
				longer = append(longer, append(slices.Clone(l), k))
			}
		}
		all = longer
	}
	return all
}

// P3.1: a list that is not the vector of any tree has none.
func TestTreeOfAllLists(t *testing.T) {
	for n := range 6 {
		var vectors [][]int
		for _, tree := range allTrees(n) {
			vectors = append(vectors, vectorByTerms(tree))
		}
		for _, list := range lists(n) {
			known := slices.ContainsFunc(vectors, func(v []int) bool { return slices.Equal(v, list) })
			tree, err := forks.Tree(list)
			if known != (err == api.OK) || !known && (tree != "" || err != api.ErrArg) {
				t.Fatalf("Tree(%v) = %q %d", list, tree, err)
			}
		}
	}
}

// P3.1, P1: lists that are too long, or have great numbers.
func TestTreeOfWrongLists(t *testing.T) {
	for _, list := range [][]int{
		make([]int, 11), make([]int, 100000), {10, 9, 8, 7, 6, 5, 4, 3, 2, 1, 0}, {huge}, {-huge - 1}, {1, huge, 0}, {2, -huge - 1, 0},
		{0, 0, huge - 1}, {1, 1, 0}, {10, 0, 0, 0, 0, 0, 0, 0, 0, 0}, {0, 0, 0, 0, 0, 0, 0, 0, 0, 1},
	} {
		if tree, err := forks.Tree(list); tree != "" || err != api.ErrArg {
			t.Errorf("Tree(%v) = %q %d", list, tree, err)
		}
	}
}

func mirrorByTerms(tree string) string {
	if tree == "." {
		return tree
	}
	l, r := parts(tree)
	return "(" + mirrorByTerms(r) + mirrorByTerms(l) + ")"
}

// P3.1.
func TestMirror(t *testing.T) {
	for n := range api.MaxForks + 1 {
		for _, tree := range allTrees(n) {
			mirrored, err := forks.Mirror(tree)
			if want := mirrorByTerms(tree); err != api.OK || mirrored != want {
				t.Fatalf("Mirror(%s) = %s %d, want %s", tree, mirrored, err, want)
			}
		}
	}
	if got := mirror(t, "((.(..))((..)(.(..))))"); got != "((((..).)(..))((..).))" {
		t.Errorf("Mirror = %s", got)
	}
}
