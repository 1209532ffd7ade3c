package office

import (
	"lampbox/api"
	"lampbox/bags"
	"lampbox/clock"
	"lampbox/forks"
	"lampbox/marks"
	"lampbox/order"
	"lampbox/posts"
	"lampbox/relay"
	"lampbox/round"
	"lampbox/seals"
	"lampbox/streets"
	"lampbox/sums"
)

// file is what a layer works on. It never changes.
type file interface {
	// kind returns the word of the act that makes such a file.
	kind() string
	// given returns what that act is given after the name.
	given() string
	// isRight reports whether its layer calls it so: layers only say so by the errors of their functions.
	isRight() bool
}

type graph struct {
	n     int
	edges []api.Edge
}

func (graph) kind() string { return "graph" }

func (g graph) given() string {
	return writeNumber(g.n) + " " + writeAll(g.edges, ";", func(e api.Edge) string { return writeList([]int{e.A, e.B}) })
}

func (g graph) isRight() bool {
	_, err := bags.Cores(g.n, g.edges)
	return err == api.OK
}

type net struct {
	n       int
	streets []api.Street
}

func (net) kind() string { return "net" }

func (t net) given() string {
	return writeNumber(t.n) + " " + writeAll(t.streets, ";", func(s api.Street) string { return writeList([]int{s.A, s.B, s.Weight}) })
}

func (t net) isRight() bool {
	_, err := streets.Narrow(t.n, t.streets, 0, 0)
	return err == api.OK
}

type fork string

func (fork) kind() string { return "fork" }

func (f fork) given() string { return string(f) }

func (f fork) isRight() bool {
	_, err := forks.Vector(string(f))
	return err == api.OK
}

type chain string

func (chain) kind() string { return "chain" }

func (c chain) given() string { return string(c) }

func (c chain) isRight() bool {
	_, err := seals.Ways(string(c), 0)
	return err == api.OK
}

type list struct {
	group    []int
	elements [][]int
}

func (list) kind() string { return "list" }

func (l list) given() string {
	return writeList(l.group) + " " + writeLists(l.elements)
}

func (l list) isRight() bool {
	_, err := sums.Sums(l.group, l.elements)
	return err == api.OK
}

type pile []int

func (pile) kind() string { return "pile" }

func (p pile) given() string { return writeList(p) }

func (p pile) isRight() bool {
	_, err := order.Table(p)
	return err == api.OK
}

type table [][]int

func (table) kind() string { return "table" }

func (t table) given() string { return writeLists(t) }

func (t table) isRight() bool {
	_, _, err := posts.Level(t)
	return err == api.OK
}

type miles [][]int

func (miles) kind() string { return "miles" }

func (m miles) given() string { return writeLists(m) }

func (m miles) isRight() bool {
	_, _, err := round.Metric(m)
	return err == api.OK
}

type line struct {
	n     int
	pairs [][2]int
}

func (line) kind() string { return "line" }

func (l line) given() string {
	return writeNumber(l.n) + " " + writeAll(l.pairs, ";", func(pair [2]int) string { return writeList(pair[:]) })
}

func (l line) isRight() bool {
	_, err := relay.Far(l.n, l.pairs, 0)
	return err == api.OK
}

type machine [][]int

func (machine) kind() string { return "machine" }

func (m machine) given() string { return writeLists(m) }

func (m machine) isRight() bool {
	_, err := clock.Image(m, nil, "")
	return err == api.OK
}

type mark string

func (mark) kind() string { return "mark" }

func (m mark) given() string { return string(m) }

func (m mark) isRight() bool {
	_, err := marks.Periods(string(m))
	return err == api.OK
}
