package streets_test

import (
	"slices"
	"testing"

	"lampbox/api"
	"lampbox/streets"
)

// narrowByTrial tries all weights; it returns -1 if the vertices are not connected.
func (s sample) narrowByTrial(u, v int) int {
	if u == v {
		return 0
	}
	for _, i := range s.inOrder() {
		weight := s.streets[i].Weight
		first := s.reach(func(k int) bool { return s.streets[k].Weight <= weight })
		if first[u] == first[v] {
			return weight
		}
	}
	return -1
}

// P2.4.
func TestNarrow(t *testing.T) {
	for _, s := range append(testedNets(), notConnected()...) {
		for u := range s.n {
			for v := range s.n {
				narrow, err := streets.Narrow(s.n, s.streets, u, v)
				want := s.narrowByTrial(u, v)
				if want < 0 {
					if narrow != 0 || err != api.ErrNone {
						t.Fatalf("Narrow(%v, %d, %d) = %d %d, but they are not connected", s, u, v, narrow, err)
					}
				} else if narrow != want || err != api.OK {
					t.Fatalf("Narrow(%v, %d, %d) = %d %d, want %d", s, u, v, narrow, err, want)
				}
			}
		}
	}
}

// P2.4: a vertex is connected with itself without a street, also if all streets are wide.
func TestNarrowOfKnownNets(t *testing.T) {
	s := square()
	for _, x := range [][3]int{{0, 0, 0}, {3, 3, 0}, {0, 1, 1}, {1, 0, 1}, {0, 2, 2}, {0, 3, 3}, {3, 0, 3}, {1, 3, 3}} {
		if narrow, err := streets.Narrow(s.n, s.streets, x[0], x[1]); narrow != x[2] || err != api.OK {
			t.Errorf("Narrow(%d, %d) = %d %d, want %d", x[0], x[1], narrow, err, x[2])
		}
	}
	if narrow, err := streets.Narrow(2, path(2, 1, 1000).streets, 0, 1); narrow != 1000 || err != api.OK {
		t.Errorf("Narrow of a street = %d %d", narrow, err)
	}
	if narrow, err := streets.Narrow(2, nil, 1, 1); narrow != 0 || err != api.OK {
		t.Errorf("Narrow without streets = %d %d", narrow, err)
	}
}

// P2.4: ErrArg comes before ErrNone, and equal numbers that are no vertices are not connected either.
func TestNarrowOfNoVertices(t *testing.T) {
	for _, s := range []sample{square(), {n: 4}} {
		for _, x := range [][2]int{{-1, 0}, {0, -1}, {4, 0}, {0, 4}, {4, 4}, {-1, -1}, {huge, 1}, {1, -huge - 1}} {
			narrow, err := streets.Narrow(s.n, s.streets, x[0], x[1])
			wantErr(t, "Narrow", err, api.ErrArg)
			if narrow != 0 {
				t.Errorf("Narrow(%v) = %d with an error", x, narrow)
			}
		}
	}
}

// P2.5: the greatest weight on the way between two vertices in the first tree is Narrow.
func TestNarrowInTree(t *testing.T) {
	for _, s := range greatNets() {
		tree, _, err := streets.Tree(s.n, s.streets)
		if err != api.OK {
			continue
		}
		inTree := sample{n: s.n}
		for _, i := range tree {
			inTree.streets = append(inTree.streets, s.streets[i])
		}
		for u := range s.n {
			for v := range s.n {
				// In a tree there is only one way.
				narrow, err := streets.Narrow(s.n, s.streets, u, v)
				if want := inTree.narrowByTrial(u, v); narrow != want || err != api.OK {
					t.Fatalf("Narrow(%v, %d, %d) = %d %d, want %d", s, u, v, narrow, err, want)
				}
			}
		}
	}
}

// between returns the smallest weight of a street between two groups, or -1.
func (s sample) between(group []int) int {
	least := -1
	for _, e := range s.streets {
		if group[e.A] != group[e.B] && (least < 0 || e.Weight < least) {
			least = e.Weight
		}
	}
	return least
}

// P2.4.
func TestGroups(t *testing.T) {
	for _, s := range append(testedNets(), greatNets()...) {
		taken := s.taken()
		for k := 1; k <= s.n; k++ {
			group, least, err := streets.Groups(s.n, s.streets, k)
			if len(taken) < s.n-1 {
				if err != api.ErrNone || len(group) > 0 || least != 0 {
					t.Fatalf("Groups(%v, %d) = %v %d %d, but it is not connected", s, k, group, least, err)
				}
				continue
			}
			want := s.reachBy(taken[:s.n-k])
			if err != api.OK || !slices.Equal(group, want) || least != s.between(want) {
				t.Fatalf("Groups(%v, %d) = %v %d %d, want %v %d", s, k, group, least, err, want, s.between(want))
			}
		}
	}
}

// P2.4.
func TestGroupsOfKnownNets(t *testing.T) {
	for _, x := range []struct {
		s     sample
		k     int
		group []int
		least int
	}{
		{square(), 1, []int{0, 0, 0, 0}, -1},
		{square(), 2, []int{0, 0, 0, 3}, 3},
		{square(), 3, []int{0, 0, 2, 3}, 2},
		{square(), 4, []int{0, 1, 2, 3}, 1},
		{sample{n: 1}, 1, []int{0}, -1},
		{ring(5, 0), 2, []int{0, 0, 0, 0, 4}, 0},
		{path(4, 2, 7), 3, []int{0, 0, 2, 3}, 7},
		{sample{4, []api.Street{street(3, 1, 2), street(2, 0, 2), street(1, 0, 9), street(2, 3, 8)}}, 2, []int{0, 1, 0, 1}, 8},
	} {
		group, least, err := streets.Groups(x.s.n, x.s.streets, x.k)
		if err != api.OK || least != x.least || !slices.Equal(group, x.group) {
			t.Errorf("Groups(%v, %d) = %v %d %d, want %v %d", x.s, x.k, group, least, err, x.group, x.least)
		}
	}
}

// P2.4: ErrArg comes before ErrNone.
func TestGroupsOfWrongNumbers(t *testing.T) {
	for _, s := range []sample{square(), {n: 4}, {n: 1}} {
		for _, k := range []int{0, -1, s.n + 1, 100, huge, -huge - 1} {
			group, least, err := streets.Groups(s.n, s.streets, k)
			wantErr(t, "Groups", err, api.ErrArg)
			if len(group) > 0 || least != 0 {
				t.Errorf("Groups(%v, %d) = %v %d with an error", s, k, group, least)
			}
		}
	}
}

// divisions calls visit for each division of n vertices into groups, which are numbered from 0 on.
func divisions(n int, visit func(group []int, groups int)) {
	group := make([]int, n)
	var extend func(v, groups int)
	extend = func(v, groups int) {
		if v == n {
			visit(group, groups)
			return
		}
		for g := range groups + 1 {
			group[v] = g
			extend(v+1, max(groups, g+1))
		}
	}
	extend(0, 0)
}

// P2.5: no other division into as many groups, at least two, has a greater smallest weight between two groups.
func TestGroupsAreWidest(t *testing.T) {
	for _, s := range randomNets() {
		widest := make([]int, s.n+1)
		divisions(s.n, func(group []int, groups int) {
			widest[groups] = max(widest[groups], s.between(group))
		})
		for k := 2; k <= s.n; k++ {
			if _, least, err := streets.Groups(s.n, s.streets, k); err == api.OK && least != widest[k] {
				t.Fatalf("Groups(%v, %d) has the smallest weight %d, but %d is possible", s, k, least, widest[k])
			}
		}
	}
}
