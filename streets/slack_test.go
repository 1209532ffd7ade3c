package streets_test

import (
	"slices"
	"testing"

	"lampbox/api"
	"lampbox/streets"
)

// stays reports whether a street is in some smallest one of the trees if its weight changes.
func (s sample) stays(trees [][]int, i, change int) bool {
	changed := sample{s.n, slices.Clone(s.streets)}
	changed.streets[i].Weight += change
	return slices.ContainsFunc(changed.smallest(trees), func(tree []int) bool { return slices.Contains(tree, i) })
}

// slackByTrial changes the weight of a street step by step.
func (s sample) slackByTrial(trees [][]int, i int) int {
	change := 0
	if slices.Contains(s.taken(), i) {
		if !slices.ContainsFunc(trees, func(tree []int) bool { return !slices.Contains(tree, i) }) {
			return -1
		}
		for s.stays(trees, i, change+1) {
			change++
		}
		return change
	}
	for !s.stays(trees, i, -change) {
		change++
	}
	return change
}

// P2.2.
func TestSlack(t *testing.T) {
	for _, s := range testedNets() {
		slack, err := streets.Slack(s.n, s.streets)
		trees := s.trees()
		if len(trees) == 0 {
			if err != api.ErrNone || len(slack) > 0 {
				t.Fatalf("Slack(%v) = %v %d, but there is no tree", s, slack, err)
			}
			continue
		}
		var want []int
		for i := range s.streets {
			want = append(want, s.slackByTrial(trees, i))
		}
		if err != api.OK || !slices.Equal(slack, want) {
			t.Fatalf("Slack(%v) = %v %d, want %v", s, slack, err, want)
		}
	}
}

// P2.2: also where weights become negative.
func TestSlackOfKnownNets(t *testing.T) {
	for _, x := range []struct {
		s    sample
		want []int
	}{
		{square(), []int{3, 2, 1, 1}},
		{sample{n: 1}, nil},
		{path(2, 1, 5), []int{-1}},
		{path(2, 3, 5), []int{0, 0, 0}},
		{path(3, 1, 0), []int{-1, -1}},
		{ring(3, 4), []int{0, 0, 0}},
		{beside(ring(3, 4), ring(3, 0), true), []int{0, 0, 0, 0, 0, 0, -1}},
		{sample{2, []api.Street{street(0, 1, 0), street(1, 0, 1000)}}, []int{1000, 1000}},
		{sample{3, []api.Street{street(0, 1, 0), street(1, 2, 7), street(0, 2, 9), street(0, 1, 3)}}, []int{3, 2, 2, 3}},
	} {
		if slack, err := streets.Slack(x.s.n, x.s.streets); err != api.OK || !slices.Equal(slack, x.want) {
			t.Errorf("Slack(%v) = %v %d, want %v", x.s, slack, err, x.want)
		}
	}
}

// P2.2: the slack is just what the weight of the first tree shows when the weight of one street changes.
func TestSlackOfGreatNets(t *testing.T) {
	for _, s := range greatNets() {
		slack, err := streets.Slack(s.n, s.streets)
		tree, weight, treeErr := streets.Tree(s.n, s.streets)
		wantErr(t, "Slack", err, treeErr)
		if err != api.OK {
			continue
		}
		for i, e := range s.streets {
			without := sample{s.n, slices.Delete(slices.Clone(s.streets), i, i+1)}
			_, lighter, err := streets.Tree(without.n, without.streets)
			want := lighter - weight // what its loss costs, if it is in the first tree
			if err == api.ErrNone {
				want = -1
			} else if !slices.Contains(tree, i) {
				first := s.reach(func(k int) bool { return s.streets[k].Weight < e.Weight-slack[i] })
				same := s.reach(func(k int) bool { return s.streets[k].Weight <= e.Weight-slack[i] })
				if first[e.A] == first[e.B] || same[e.A] != same[e.B] {
					t.Fatalf("Slack(%v)[%d] = %d", s, i, slack[i])
				}
				continue
			}
			if slack[i] != want {
				t.Fatalf("Slack(%v)[%d] = %d, want %d", s, i, slack[i], want)
			}
		}
	}
}

// P2.2.
func TestCritical(t *testing.T) {
	for _, s := range testedNets() {
		all, none, err := streets.Critical(s.n, s.streets)
		best := s.smallest(s.trees())
		if len(best) == 0 {
			if err != api.ErrNone || len(all) > 0 || len(none) > 0 {
				t.Fatalf("Critical(%v) = %v %v %d, but there is no tree", s, all, none, err)
			}
			continue
		}
		var wantAll, wantNone []int
		for i := range s.streets {
			count := 0
			for _, tree := range best {
				if slices.Contains(tree, i) {
					count++
				}
			}
			if count == len(best) {
				wantAll = append(wantAll, i)
			}
			if count == 0 {
				wantNone = append(wantNone, i)
			}
		}
		if err != api.OK || !slices.Equal(all, wantAll) || !slices.Equal(none, wantNone) {
			t.Fatalf("Critical(%v) = %v %v %d, want %v %v", s, all, none, err, wantAll, wantNone)
		}
	}
}

// P2.2.
func TestCriticalOfKnownNets(t *testing.T) {
	for _, x := range []struct {
		s         sample
		all, none []int
	}{
		{square(), []int{0, 1, 2}, []int{3}},
		{sample{n: 1}, nil, nil},
		{path(16, 1, 3), []int{0, 1, 2, 3, 4, 5, 6, 7, 8, 9, 10, 11, 12, 13, 14}, nil},
		{ring(16, 3), nil, nil},
		{beside(ring(3, 4), ring(3, 0), true), []int{6}, nil},
		{sample{3, []api.Street{street(0, 1, 9), street(1, 2, 7), street(0, 2, 9), street(1, 2, 8)}}, []int{1}, []int{3}},
	} {
		all, none, err := streets.Critical(x.s.n, x.s.streets)
		if err != api.OK || !slices.Equal(all, x.all) || !slices.Equal(none, x.none) {
			t.Errorf("Critical(%v) = %v %v %d, want %v %v", x.s, all, none, err, x.all, x.none)
		}
	}
}

// P2.2: a net that is not connected has no slack.
func TestNotConnected(t *testing.T) {
	for _, s := range notConnected() {
		_, _, err := streets.Tree(s.n, s.streets)
		wantErr(t, "Tree", err, api.ErrNone)
		_, err = streets.Slack(s.n, s.streets)
		wantErr(t, "Slack", err, api.ErrNone)
		_, _, err = streets.Critical(s.n, s.streets)
		wantErr(t, "Critical", err, api.ErrNone)
		_, err = streets.Second(s.n, s.streets)
		wantErr(t, "Second", err, api.ErrNone)
		_, _, err = streets.Groups(s.n, s.streets, s.n)
		wantErr(t, "Groups", err, api.ErrNone)
		if count, err := streets.Count(s.n, s.streets); count != 0 || err != api.OK {
			t.Errorf("Count(%v) = %d %d", s, count, err)
		}
	}
}
