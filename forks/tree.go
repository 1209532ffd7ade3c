package forks

import (
	"strings"

	"lampbox/api"
)

// tree is a leaf, or a pair of trees; a tree never changes, so trees may share parts.
type tree interface {
	forks() int
	text() string
}

type leaf struct{}

// pair is a fork with its left and its right part.
type pair struct {
	left, right tree
	size        int
}

func (leaf) forks() int { return 0 }

func (p pair) forks() int { return p.size }

func (leaf) text() string { return "." }

func (p pair) text() string {
	return "(" + p.left.text() + p.right.text() + ")"
}

func paired(left, right tree) tree {
	return pair{left, right, left.forks() + 1 + right.forks()}
}

// notTree is what the reading of a tree panics with.
type notTree struct{}

// longestText is the length of a tree with MaxForks forks: each one adds two brackets and a leaf to the first leaf.
const longestText = 3*api.MaxForks + 1

// readTree reads a tree, and reports whether the text is one.
func readTree(text string) (t tree, ok bool) {
	defer func() {
		if recover() != nil {
			t, ok = leaf{}, false
		}
	}()
	// A text that is too long is not read at all, so that it cannot nest too deeply.
	if len(text) > longestText {
		panic(notTree{})
	}
	t, rest := readPart(text)
	if rest != "" {
		panic(notTree{})
	}
	return t, true
}

// readPart reads the tree at the beginning of a text, and returns what follows it; it panics if there is none.
func readPart(text string) (tree, string) {
	if rest, ok := strings.CutPrefix(text, "."); ok {
		return leaf{}, rest
	}
	inside, ok := strings.CutPrefix(text, "(")
	if !ok {
		panic(notTree{})
	}
	left, inside := readPart(inside)
	right, inside := readPart(inside)
	rest, ok := strings.CutPrefix(inside, ")")
	if !ok {
		panic(notTree{})
	}
	return paired(left, right), rest
}

// readTwo reads two trees with the same number of forks.
func readTwo(a, b string) (tree, tree, api.Errno) {
	s, sOk := readTree(a)
	t, tOk := readTree(b)
	if !sOk || !tOk {
		return leaf{}, leaf{}, api.ErrSyntax
	}
	if s.forks() != t.forks() {
		return leaf{}, leaf{}, api.ErrArg
	}
	return s, t, api.OK
}

// mirrored exchanges left and right at every fork.
func mirrored(t tree) tree {
	switch x := t.(type) {
	case pair:
		return paired(mirrored(x.right), mirrored(x.left))
	default:
		return t
	}
}
