package forks

import "lampbox/api"

// vector has for each fork of a tree the number of forks in its right part, and zeros after the last fork.
type vector [api.MaxForks]int

func vectorOf(t tree) vector {
	var v vector
	v.enter(t, 0)
	return v
}

// enter enters the forks of a tree of which the first one has the given number.
func (v *vector) enter(t tree, first int) {
	switch x := t.(type) {
	case pair:
		at := first + x.left.forks()
		v[at] = x.right.forks()
		v.enter(x.left, first)
		v.enter(x.right, at+1)
	}
}

func (v vector) list(n int) []int {
	list := make([]int, n)
	copy(list, v[:])
	return list
}

// readVector reads a vector, and reports whether there is a tree with it.
func readVector(list []int) (vector, bool) {
	var v vector
	if len(list) > len(v) {
		return vector{}, false
	}
	for i, right := range list {
		if right < 0 || right > len(list)-1-i {
			return vector{}, false
		}
		v[i] = right
	}
	return v, v.isNested()
}

// isNested reports whether no fork in the right part of another one has forks outside this part in its own right part.
func (v vector) isNested() bool {
	for i := range v {
		end := i + v[i]
		for j := i + 1; j <= end; j++ {
			if j+v[j] > end {
				return false
			}
		}
	}
	return true
}

// tree returns the tree of the forks from first to the one before end.
func (v vector) tree(first, end int) tree {
	for root := first; root < end; root++ {
		// The right part of the root is all that follows; of several such forks the others are in its right part.
		if root+v[root] == end-1 {
			return paired(v.tree(first, root), v.tree(root+1, end))
		}
	}
	return leaf{}
}

// text returns the text of the tree with n forks.
func (v vector) text(n int) string {
	return v.tree(0, n).text()
}

// below reports whether no entry is greater than that of another vector, which is so exactly for the trees below its tree.
func (v vector) below(w vector) bool {
	for i := range v {
		if v[i] > w[i] {
			return false
		}
	}
	return true
}

// meet returns the vector of the greatest tree below both: the smaller entries of both are nested, too.
func (v vector) meet(w vector) vector {
	for i := range v {
		v[i] = min(v[i], w[i])
	}
	return v
}
