package forks_test

import (
	"slices"
	"testing"

	"lampbox/api"
	"lampbox/forks"
)

// P3.2.
func TestTurn(t *testing.T) {
	for n := range 9 {
		for _, tree := range allTrees(n) {
			for fork := range n {
				for _, right := range []bool{false, true} {
					want, wantErr := turnByTerms(tree, fork, right), api.OK
					if want == "" {
						wantErr = api.ErrNone
					}
					turned, err := forks.Turn(tree, fork, right)
					if turned != want || err != wantErr {
						t.Fatalf("Turn(%s, %d, %v) = %q %d, want %q %d", tree, fork, right, turned, err, want, wantErr)
					}
				}
			}
		}
	}
}

// P3.2: a fork that does not exist is named before a form that is wrong.
func TestTurnOfKnownTrees(t *testing.T) {
	for _, x := range []struct {
		tree  string
		fork  int
		right bool
		want  string
		err   api.Errno
	}{
		{"((..).)", 1, true, "(.(..))", api.OK},
		{"(.(..))", 0, false, "((..).)", api.OK},
		{"((..).)", 0, true, "", api.ErrNone},
		{"((..).)", 1, false, "", api.ErrNone},
		{"((..)(..))", 1, true, "(.(.(..)))", api.OK},
		{"((..)(..))", 1, false, "(((..).).)", api.OK},
		{"(.((.(..)).))", 3, true, "(.(.((..).)))", api.OK},
		{"(.((.(..)).))", 1, false, "(.(((..).).))", api.OK},
		{leftChain(10), 9, true, "(" + leftChain(8) + "(..))", api.OK},
		{".", 0, true, "", api.ErrArg},
		{".", -1, false, "", api.ErrArg},
		{"(..)", 0, true, "", api.ErrNone},
		{"(..)", 1, true, "", api.ErrArg},
		{"((..).)", 2, true, "", api.ErrArg},
		{"((..).)", -1, true, "", api.ErrArg},
		{"((..).)", huge, true, "", api.ErrArg},
		{"((..).)", -huge - 1, false, "", api.ErrArg},
	} {
		if turned, err := forks.Turn(x.tree, x.fork, x.right); turned != x.want || err != x.err {
			t.Errorf("Turn(%s, %d, %v) = %q %d, want %q %d", x.tree, x.fork, x.right, turned, err, x.want, x.err)
		}
	}
}

// P3.2.
func TestAbove(t *testing.T) {
	for n := range api.MaxForks + 1 {
		for _, tree := range allTrees(n) {
			want := turns(tree, true)
			slices.Sort(want)
			if above, err := forks.Above(tree); err != api.OK || !slices.Equal(above, want) {
				t.Fatalf("Above(%s) = %v %d, want %v", tree, above, err, want)
			}
		}
	}
}

// P3.2: the trees are ascending as strings, whatever the order of the forks.
func TestAboveOfKnownTrees(t *testing.T) {
	for _, x := range []struct {
		tree string
		want []string
	}{
		{".", nil},
		{"(..)", nil},
		{rightChain(10), nil},
		{"((..).)", []string{"(.(..))"}},
		{"(((..).).)", []string{"((.(..)).)", "((..)(..))"}},
		{"((..)((..).))", []string{"((..)(.(..)))", "(.(.((..).)))"}},
		{"((((..).).).)", []string{"(((.(..)).).)", "(((..)(..)).)", "(((..).)(..))"}},
	} {
		if above, err := forks.Above(x.tree); err != api.OK || !slices.Equal(above, x.want) {
			t.Errorf("Above(%s) = %v %d, want %v", x.tree, above, err, x.want)
		}
	}
}

// P3.6: at most n - 1 right turns lead to the tree all of whose left parts are leaves.
func TestFewTurnsLeadToTheEnd(t *testing.T) {
	for n := 1; n <= 8; n++ {
		end := rightChain(n)
		turnsTo := map[string]int{end: 0}
		queue := []string{end}
		for len(queue) > 0 {
			tree := queue[0]
			queue = queue[1:]
			for fork := range n {
				before, err := forks.Turn(tree, fork, false)
				if _, known := turnsTo[before]; err != api.OK || known {
					continue
				}
				turnsTo[before] = turnsTo[tree] + 1
				queue = append(queue, before)
			}
		}
		if len(turnsTo) != numberOfTrees[n] {
			t.Fatalf("%d forks: %d trees lead to the end", n, len(turnsTo))
		}
		for tree, many := range turnsTo {
			if many > n-1 {
				t.Fatalf("%s needs %d turns", tree, many)
			}
		}
	}
}
