package forks_test

import (
	"math/rand/v2"
	"slices"
	"strings"
	"testing"

	"lampbox/api"
	"lampbox/forks"
)

const huge = 1<<63 - 1

// numberOfTrees has the number of trees with 0 to 10 forks.
var numberOfTrees = []int{1, 1, 2, 5, 14, 42, 132, 429, 1430, 4862, 16796}

// parts divides a tree that is not a leaf into its left and its right part.
func parts(tree string) (string, string) {
	open := 0
	for i := 1; ; i++ {
		switch tree[i] {
		case '(':
			open++
		case ')':
			open--
		}
		if open == 0 {
			return tree[1 : i+1], tree[i+1 : len(tree)-1]
		}
	}
}

func size(tree string) int {
	return strings.Count(tree, "(")
}

// allTrees are all trees with n forks in ascending order.
func allTrees(n int) []string {
	byForks := [][]string{{"."}}
	for m := 1; m <= n; m++ {
		var trees []string
		for left := range m {
			for _, l := range byForks[left] {
				for _, r := range byForks[m-1-left] {
					trees = append(trees, "("+l+r+")")
				}
			}
		}
		slices.Sort(trees)
		byForks = append(byForks, trees)
	}
	return byForks[n]
}

func randomTree(r *rand.Rand, n int) string {
	if n == 0 {
		return "."
	}
	left := r.IntN(n)
	return "(" + randomTree(r, left) + randomTree(r, n-1-left) + ")"
}

// leftChain has no right part but leaves, rightChain no left part but leaves.
func leftChain(n int) string {
	return strings.Repeat("(", n) + "." + strings.Repeat(".)", n)
}

func rightChain(n int) string {
	return strings.Repeat("(.", n) + "." + strings.Repeat(")", n)
}

// vectorByTerms counts as the terms do.
func vectorByTerms(tree string) []int {
	if tree == "." {
		return nil
	}
	l, r := parts(tree)
	return slices.Concat(vectorByTerms(l), []int{size(r)}, vectorByTerms(r))
}

// turnByTerms turns at a fork as the terms say; it returns an empty string if the form is not the needed one.
func turnByTerms(tree string, fork int, right bool) string {
	l, r := parts(tree)
	switch at := size(l); {
	case fork < at:
		if turned := turnByTerms(l, fork, right); turned != "" {
			return "(" + turned + r + ")"
		}
	case fork > at:
		if turned := turnByTerms(r, fork-at-1, right); turned != "" {
			return "(" + l + turned + ")"
		}
	case right && l != ".":
		a, b := parts(l)
		return "(" + a + "(" + b + r + "))"
	case !right && r != ".":
		b, c := parts(r)
		return "((" + l + b + ")" + c + ")"
	}
	return ""
}

// turns are all trees that one turn to a side makes of a tree.
func turns(tree string, right bool) []string {
	var all []string
	for fork := range size(tree) {
		if turned := turnByTerms(tree, fork, right); turned != "" {
			all = append(all, turned)
		}
	}
	return all
}

// distances has for each tree that can be reached from one the smallest number of turns: to the right only, or to both sides.
func distances(tree string, rightOnly bool) map[string]int {
	distance := map[string]int{tree: 0}
	queue := []string{tree}
	for len(queue) > 0 {
		t := queue[0]
		queue = queue[1:]
		next := turns(t, true)
		if !rightOnly {
			next = append(next, turns(t, false)...)
		}
		for _, u := range next {
			if _, known := distance[u]; !known {
				distance[u] = distance[t] + 1
				queue = append(queue, u)
			}
		}
	}
	return distance
}

// order has for each tree with n forks those that it is below.
func order(n int) map[string]map[string]int {
	above := map[string]map[string]int{}
	for _, tree := range allTrees(n) {
		above[tree] = distances(tree, true)
	}
	return above
}

func wantErr(t *testing.T, what string, got, want api.Errno) {
	t.Helper()
	if got != want {
		t.Fatalf("%s: error %d, want %d", what, got, want)
	}
}

// must returns a result without an error.
func must[T any](t *testing.T) func(result T, err api.Errno) T {
	return func(result T, err api.Errno) T {
		t.Helper()
		wantErr(t, "error", err, api.OK)
		return result
	}
}

func below(t *testing.T, a, b string) bool {
	t.Helper()
	return must[bool](t)(forks.Below(a, b))
}

func meet(t *testing.T, a, b string) string {
	t.Helper()
	return must[string](t)(forks.Meet(a, b))
}

func join(t *testing.T, a, b string) string {
	t.Helper()
	return must[string](t)(forks.Join(a, b))
}

func mirror(t *testing.T, a string) string {
	t.Helper()
	return must[string](t)(forks.Mirror(a))
}
