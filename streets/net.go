package streets

import (
	"cmp"
	"slices"

	"lampbox/api"
)

// net has n vertices and streets between them.
type net struct {
	n       int
	streets []api.Street
}

// readNet reads a net, and reports whether n and the streets are one.
func readNet(n int, streets []api.Street) (net, bool) {
	t := net{n, streets}
	if n < 1 || n > api.MaxBoxes || len(streets) > api.MaxStreets {
		return net{}, false
	}
	for _, s := range streets {
		if !t.isVertex(s.A) || !t.isVertex(s.B) || s.A == s.B || s.Weight < 0 || s.Weight > api.MaxWeight {
			return net{}, false
		}
	}
	return t, true
}

func (t net) isVertex(v int) bool {
	return v >= 0 && v < t.n
}

// set is a set of streets.
type set map[int]bool

func setOf(streets []int) set {
	s := set{}
	for _, i := range streets {
		s[i] = true
	}
	return s
}

// ordered returns the positions of all streets in the order of streets.
func (t net) ordered() []int {
	order := make([]int, len(t.streets))
	for i := range order {
		order[i] = i
	}
	slices.SortFunc(order, func(i, j int) int {
		return decided(cmp.Compare(t.streets[i].Weight, t.streets[j].Weight), cmp.Compare(i, j))
	})
	return order
}

// decided returns the first one of several comparisons that is not a draw.
func decided(comparisons ...int) int {
	for _, c := range comparisons {
		if c != 0 {
			return c
		}
	}
	return 0
}

// firstTree returns the streets of the first tree in the order of streets, and reports whether the net is connected.
func (t net) firstTree() ([]int, bool) {
	tree := make([]int, 0, t.n)
	p := separate()
	for _, i := range t.ordered() {
		if p.join(t.streets[i].A, t.streets[i].B) {
			tree = append(tree, i)
		}
	}
	return tree, len(tree) == t.n-1
}

func (t net) weight(streets []int) int {
	sum := 0
	for _, i := range streets {
		sum += t.streets[i].Weight
	}
	return sum
}

// joinedBy returns the parts that the streets connect.
func (t net) joinedBy(streets []int) parts {
	p := separate()
	for _, i := range streets {
		p.join(t.streets[i].A, t.streets[i].B)
	}
	return p
}

// isTree reports whether a list is a spanning tree.
func (t net) isTree(list []int) bool {
	if len(list) != t.n-1 {
		return false
	}
	p := separate()
	last := -1
	for _, i := range list {
		// As many streets as a tree has connect all vertices if each one joins two parts.
		if i <= last || i >= len(t.streets) || !p.join(t.streets[i].A, t.streets[i].B) {
			return false
		}
		last = i
	}
	return true
}
