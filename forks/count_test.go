package forks_test

import (
	"testing"

	"lampbox/api"
	"lampbox/forks"
)

// P3.5.
func TestItemAndIndex(t *testing.T) {
	for n := range api.MaxForks + 1 {
		trees := allTrees(n)
		if len(trees) != numberOfTrees[n] {
			t.Fatalf("%d forks: %d trees", n, len(trees))
		}
		for k, tree := range trees {
			if got, err := forks.Item(n, k); got != tree || err != api.OK {
				t.Fatalf("Item(%d, %d) = %s %d, want %s", n, k, got, err, tree)
			}
			if got, err := forks.Index(tree); got != k || err != api.OK {
				t.Fatalf("Index(%s) = %d %d, want %d", tree, got, err, k)
			}
		}
	}
}

// P3.5: the order is that of strings, not that of the sizes of the parts.
func TestItemsOfThreeForks(t *testing.T) {
	for k, want := range []string{"(((..).).)", "((.(..)).)", "((..)(..))", "(.((..).))", "(.(.(..)))"} {
		if got, err := forks.Item(3, k); got != want || err != api.OK {
			t.Errorf("Item(3, %d) = %s %d, want %s", k, got, err, want)
		}
	}
	if got, err := forks.Item(0, 0); got != "." || err != api.OK {
		t.Errorf("Item(0, 0) = %s %d", got, err)
	}
}

// P3.5: there are no further trees.
func TestItemOutside(t *testing.T) {
	for n, many := range numberOfTrees {
		for _, k := range []int{-1, -huge - 1, many, many + 1, huge} {
			if got, err := forks.Item(n, k); got != "" || err != api.ErrArg {
				t.Errorf("Item(%d, %d) = %q %d", n, k, got, err)
			}
		}
	}
	for _, n := range []int{-1, 11, 12, 1000, huge, -huge - 1} {
		for _, k := range []int{0, 1, -1} {
			if got, err := forks.Item(n, k); got != "" || err != api.ErrArg {
				t.Errorf("Item(%d, %d) = %q %d", n, k, got, err)
			}
		}
	}
}

// P3.5, P3.6: counted one by one, and as the formula says.
func TestPairs(t *testing.T) {
	for n := range 8 {
		pairs := 0
		for _, above := range order(n) {
			pairs += len(above)
		}
		if got, err := forks.Pairs(n); got != pairs || err != api.OK {
			t.Errorf("Pairs(%d) = %d %d, want %d", n, got, err, pairs)
		}
	}
	for n, want := range []int{1, 1, 3, 13, 68, 399, 2530, 16965, 118668, 857956, 6369883} {
		if got, err := forks.Pairs(n); got != want || err != api.OK {
			t.Errorf("Pairs(%d) = %d %d, want %d", n, got, err, want)
		}
	}
	for _, n := range []int{-1, 11, 100, huge, -huge - 1} {
		if got, err := forks.Pairs(n); got != 0 || err != api.ErrArg {
			t.Errorf("Pairs(%d) = %d %d", n, got, err)
		}
	}
}
