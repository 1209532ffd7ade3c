package forks_test

import (
	"reflect"
	"slices"
	"strings"
	"testing"

	"lampbox/api"
	"lampbox/forks"
)

// ofOne calls every function with one tree, ofTwo every function with two trees.
func ofOne(tree string, fork int, right bool) ([]any, []api.Errno) {
	r1, e1 := forks.Vector(tree)
	r2, e2 := forks.Turn(tree, fork, right)
	r3, e3 := forks.Above(tree)
	r4, e4 := forks.Index(tree)
	r5, e5 := forks.Mirror(tree)
	return []any{r1, r2, r3, r4, r5}, []api.Errno{e1, e2, e3, e4, e5}
}

func ofTwo(a, b string) ([]any, []api.Errno) {
	r1, e1 := forks.Below(a, b)
	r2, e2 := forks.Meet(a, b)
	r3, e3 := forks.Join(a, b)
	r4, e4 := forks.Way(a, b)
	r5, e5 := forks.Longest(a, b)
	return []any{r1, r2, r3, r4, r5}, []api.Errno{e1, e2, e3, e4, e5}
}

// wantAllErr fails if not all errors are the same one, or one comes with a result.
func wantAllErr(t *testing.T, what string, results []any, errs []api.Errno, want api.Errno) {
	t.Helper()
	for i, err := range errs {
		if err != want {
			t.Fatalf("%s: function %d: error %d, want %d", what, i, err, want)
		}
		if v := reflect.ValueOf(results[i]); v.Kind() == reflect.Slice && v.Len() > 0 || v.Kind() != reflect.Slice && !v.IsZero() {
			t.Fatalf("%s: function %d returns %v with an error", what, i, results[i])
		}
	}
}

// notTrees are strings with a part that is missing, one too many, or a byte that is none of a tree, and trees that are too great.
func notTrees() []string {
	return []string{
		"", "(", ")", "()", "..", "(.)", "(...)", "(..", "..)", "(..).", ".(..)", "(..)(..)", "((..)", "(..))", ")..(", "((..).", "(.(..)",
		" ", ". ", " .", "( ..)", "(. .)", "(..)\n", "(..\x00", "(.,)", "[..]", "(ab)", "\xff", "\u2024", "((..)(..)(..))", "((.)(.))",
		leftChain(11), rightChain(11), "(" + leftChain(5) + leftChain(5) + ")", leftChain(10) + ".", "." + leftChain(10),
		leftChain(30), strings.Repeat("(", 31), strings.Repeat(".", 31), strings.Repeat("(", 3000000), leftChain(1000000),
		rightChain(1000000), strings.Repeat("(.", 1000000), strings.Repeat(")", 1000000), strings.Repeat(".", 1000000),
	}
}

// A string that is not a tree is an error of every function, before any other one (P1, rules 1, 2 and 4).
func TestNotTrees(t *testing.T) {
	for _, text := range notTrees() {
		what := text[:min(len(text), 40)]
		for _, fork := range []int{0, -1, huge} {
			results, errs := ofOne(text, fork, true)
			wantAllErr(t, what, results, errs, api.ErrSyntax)
		}
		for _, other := range []string{".", "(..)", leftChain(10), "", text} {
			results, errs := ofTwo(text, other)
			wantAllErr(t, what, results, errs, api.ErrSyntax)
			results, errs = ofTwo(other, text)
			wantAllErr(t, what, results, errs, api.ErrSyntax)
		}
	}
}

// Of all short strings just those that the terms make are trees.
func TestAllShortStrings(t *testing.T) {
	trees := slices.Concat(allTrees(0), allTrees(1), allTrees(2))
	texts := []string{""}
	for range 8 {
		for _, text := range texts {
			_, err := forks.Vector(text)
			if want := slices.Contains(trees, text); want != (err == api.OK) || !want && err != api.ErrSyntax {
				t.Fatalf("Vector(%q): error %d", text, err)
			}
		}
		var longer []string
		for _, text := range texts {
			longer = append(longer, text+"(", text+".", text+")", text+"x")
		}
		texts = longer
	}
}

// A tree from which one byte is taken, or changed into another one, is not a tree.
func TestSpoiltTrees(t *testing.T) {
	for _, tree := range []string{"(..)", "((..)(..))", leftChain(10), rightChain(10), "((.(..))((..)(.(..))))"} {
		for i := range len(tree) {
			for _, byte := range []string{"", "(", ".", ")", "x", "..", "((", "(..)"} {
				text := tree[:i] + byte + tree[i+1:]
				// To write a fork in the place of a leaf makes a greater tree, and the same byte makes the same one.
				if byte == "(..)" && tree[i] == '.' && size(tree) < api.MaxForks || text == tree {
					continue
				}
				if _, err := forks.Index(text); err != api.ErrSyntax {
					t.Errorf("Index(%s): error %d", text, err)
				}
			}
		}
	}
}

// Two trees that do not have the same number of forks are an error of every function with two trees.
func TestTwoSizes(t *testing.T) {
	for m := range api.MaxForks + 1 {
		for n := range api.MaxForks + 1 {
			if m != n {
				results, errs := ofTwo(leftChain(m), rightChain(n))
				wantAllErr(t, "two sizes", results, errs, api.ErrArg)
			}
		}
	}
}

// P2, rule 5: a second call returns the same; arguments stay as they are; results are new memory.
func TestCallsLeaveNothingBehind(t *testing.T) {
	for _, tree := range slices.Concat(allTrees(4), allTrees(5)) {
		end := rightChain(size(tree))
		all := func() []any {
			one, _ := ofOne(tree, 1, true)
			two, _ := ofTwo(tree, end)
			return append(one, two...)
		}
		first, kept := all(), all()
		if !reflect.DeepEqual(first, kept) {
			t.Fatalf("two calls differ: %v, %v", first, kept)
		}
		for _, r := range first {
			switch l := r.(type) {
			case []int:
				for i := range l[:cap(l)] {
					l[:cap(l)][i] = -7
				}
			case []string:
				for i := range l[:cap(l)] {
					l[:cap(l)][i] = "spoilt"
				}
			}
		}
		if again := all(); !reflect.DeepEqual(again, kept) {
			t.Fatalf("results share memory: %v, %v", again, kept)
		}
		vector := vectorByTerms(tree)
		before := slices.Clone(vector)
		built := must[string](t)(forks.Tree(vector))
		if again := must[string](t)(forks.Tree(vector)); !slices.Equal(vector, before) || built != again {
			t.Fatalf("Tree changes its argument, or what it returns: %v %s %s", vector, built, again)
		}
	}
}

// Lists may be nil or empty.
func TestNilAndEmpty(t *testing.T) {
	for _, list := range [][]int{nil, {}} {
		if tree, err := forks.Tree(list); tree != "." || err != api.OK {
			t.Errorf("Tree of nothing = %q %d", tree, err)
		}
	}
	if vector, err := forks.Vector("."); len(vector) > 0 || err != api.OK {
		t.Errorf("Vector of a leaf = %v %d", vector, err)
	}
}
