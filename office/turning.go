package office

import (
	"lampbox/api"
	"lampbox/forks"
	"lampbox/order"
	"lampbox/streets"
)

// demandPlace ends an act with an error if there is no place for a new file. These errors come before those of functions.
func (o *Office) demandPlace(name string) {
	demand(!o.has(name), api.ErrArg)
	demand(!o.isFull(), api.ErrFull)
}

func (o *Office) second(a arguments) string {
	p := as[pile](o.file(a.name))
	o.demandPlace(a.target)
	second, err := order.Second(p)
	expect(err)
	return o.made(a.target, pile(second))
}

func (o *Office) mirror(a arguments) string {
	f := as[fork](o.file(a.name))
	o.demandPlace(a.target)
	mirrored, err := forks.Mirror(string(f))
	expect(err)
	return o.made(a.target, fork(mirrored))
}

func (o *Office) meet(a arguments) string {
	return o.combined(a, forks.Meet)
}

func (o *Office) join(a arguments) string {
	return o.combined(a, forks.Join)
}

// combined makes what a function makes of two trees.
func (o *Office) combined(a arguments, combine func(one, other string) (string, api.Errno)) string {
	one, other := o.twoForks(a)
	o.demandPlace(a.target)
	tree, err := combine(one, other)
	expect(err)
	return o.made(a.target, fork(tree))
}

func (o *Office) spread(a arguments) string {
	t := as[net](o.file(a.name))
	o.demandPlace(a.target)
	return o.made(a.target, graph{t.n, t.edges()})
}

func (o *Office) ways(a arguments) string {
	t := as[net](o.file(a.name))
	o.demandPlace(a.target)
	return o.made(a.target, miles(t.ways()))
}

func (o *Office) shown(a arguments) string {
	p := as[pile](o.file(a.name))
	o.demandPlace(a.target)
	return o.made(a.target, table(p.shown()))
}

func (o *Office) drop(a arguments) string {
	demand(o.has(a.name), api.ErrNone)
	o.remove(a.name)
	return "dropped " + a.name
}

// edges returns an edge for each two vertices that a street joins, in lexicographic order.
func (t net) edges() []api.Edge {
	var joined [api.MaxBoxes][api.MaxBoxes]bool
	for _, s := range t.streets {
		joined[min(s.A, s.B)][max(s.A, s.B)] = true
	}
	var edges []api.Edge
	for one, others := range joined {
		for other, is := range others {
			if is {
				edges = append(edges, api.Edge{A: one, B: other})
			}
		}
	}
	return edges
}

// ways returns Narrow for every two vertices; an act is wrong if two are not connected.
func (t net) ways() [][]int {
	rows := make([][]int, t.n)
	for u := range rows {
		for v := range t.n {
			narrow, err := streets.Narrow(t.n, t.streets, u, v)
			expect(err)
			rows[u] = append(rows[u], narrow)
		}
	}
	return rows
}

// shown returns the rows with 1 in the column of the number at each position, and 0 elsewhere.
func (p pile) shown() [][]int {
	rows := make([][]int, len(p))
	for i, number := range p {
		rows[i] = make([]int, len(p))
		rows[i][number-1] = 1
	}
	return rows
}
