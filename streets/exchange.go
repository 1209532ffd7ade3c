package streets

import "slices"

// exchange makes another spanning tree of one: a street of it goes out, and another one comes in.
type exchange struct {
	out, in int
}

// exchanges returns all exchanges that are possible with a spanning tree.
func (t net) exchanges(tree []int) []exchange {
	var all []exchange
	inside := setOf(tree)
	for k, out := range tree {
		p := t.joinedBy(slices.Concat(tree[:k], tree[k+1:]))
		for in, s := range t.streets {
			if !inside[in] && !p.joined(s.A, s.B) {
				all = append(all, exchange{out, in})
			}
		}
	}
	return all
}

// growth tells how much heavier an exchange makes a tree.
func (t net) growth(x exchange) int {
	return t.streets[x.in].Weight - t.streets[x.out].Weight
}

// slack returns the slack of each street, where the tree is a smallest spanning tree.
// It is the smallest growth of an exchange in which the street has a part. Only streets that are in every
// spanning tree have none: one that is not in the tree closes a ring with it.
func (t net) slack(tree []int) []int {
	slack := slices.Repeat([]int{-1}, len(t.streets))
	for _, x := range t.exchanges(tree) {
		growth := t.growth(x)
		for _, i := range []int{x.out, x.in} {
			if slack[i] < 0 || growth < slack[i] {
				slack[i] = growth
			}
		}
	}
	return slack
}
