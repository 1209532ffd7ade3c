package forks

// place is a place in the text of trees that follow each other: so many trees, with so many forks in all, are to be
// written from there on. Brackets that close follow from what is before them, so that they never decide which one of
// two texts is smaller.
type place struct {
	trees, forks int
}

// forked returns in how many ways the rest can be written if the next tree is a fork.
func (p *place) forked() int {
	if p.forks == 0 {
		return 0
	}
	return sequences(p.trees+1, p.forks-1)
}

// passFork moves behind the opening bracket of a fork, whose parts are then to be written instead of it.
func (p *place) passFork() {
	p.trees++
	p.forks--
}

func (p *place) passLeaf() {
	p.trees--
}

// item returns the next tree of the rest that has k others before it, and how many of these agree with it up to
// the end of this tree.
func (p *place) item(k int) (tree, int) {
	// All forks come before a leaf.
	forked := p.forked()
	if k >= forked {
		p.passLeaf()
		return leaf{}, k - forked
	}
	p.passFork()
	left, k := p.item(k)
	right, k := p.item(k)
	return paired(left, right), k
}

// index returns how many ways to write the rest come before those that begin with a tree.
func (p *place) index(t tree) int {
	switch x := t.(type) {
	case pair:
		p.passFork()
		before := p.index(x.left)
		return before + p.index(x.right)
	default:
		before := p.forked()
		p.passLeaf()
		return before
	}
}

// treesWith returns the number of trees with n forks.
func treesWith(n int) int {
	return sequences(1, n)
}

// sequences returns the number of sequences of so many trees, at least 1, with so many forks in all.
func sequences(trees, forks int) int {
	return trees * choose(2*forks+trees, forks) / (2*forks + trees)
}

func choose(n, k int) int {
	product := 1
	for i := range k {
		product = product * (n - i) / (i + 1)
	}
	return product
}
