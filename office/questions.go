package office

import (
	"lampbox/api"
	"lampbox/bags"
	"lampbox/clock"
	"lampbox/forks"
	"lampbox/marks"
	"lampbox/order"
	"lampbox/posts"
	"lampbox/relay"
	"lampbox/round"
	"lampbox/seals"
	"lampbox/streets"
	"lampbox/sums"
)

// as returns a file as one of the kind that an act needs; the act is wrong if it is of another one.
func as[K file](f file) K {
	if k, ok := f.(K); ok {
		return k
	}
	panic(wrong{api.ErrArg})
}

// twoForks returns the trees of both names of an act. That a file is missing is named before a wrong kind.
func (o *Office) twoForks(a arguments) (string, string) {
	one := o.file(a.name)
	other := o.file(a.other)
	return string(as[fork](one)), string(as[fork](other))
}

func (o *Office) dense(a arguments) string {
	g := as[graph](o.file(a.name))
	set, density, _, err := bags.Densest(g.n, g.edges)
	return a.answer(err, writeList(set), writeFraction(density))
}

func (o *Office) height(a arguments) string {
	g := as[graph](o.file(a.name))
	heads, _, err := bags.Orient(g.n, g.edges)
	expect(err)
	height, err := bags.Height(g.n, g.edges, heads)
	return a.answer(err, writeNumber(height))
}

func (o *Office) cores(a arguments) string {
	g := as[graph](o.file(a.name))
	cores, err := bags.Cores(g.n, g.edges)
	return a.answer(err, writeList(cores))
}

func (o *Office) tree(a arguments) string {
	t := as[net](o.file(a.name))
	tree, weight, err := streets.Tree(t.n, t.streets)
	return a.answer(err, writeList(tree), writeNumber(weight))
}

func (o *Office) slack(a arguments) string {
	t := as[net](o.file(a.name))
	slack, err := streets.Slack(t.n, t.streets)
	return a.answer(err, writeList(slack))
}

func (o *Office) trees(a arguments) string {
	t := as[net](o.file(a.name))
	many, err := streets.Count(t.n, t.streets)
	return a.answer(err, writeNumber(many))
}

func (o *Office) narrow(a arguments) string {
	t := as[net](o.file(a.name))
	narrow, err := streets.Narrow(t.n, t.streets, a.numbers[0], a.numbers[1])
	return a.answer(err, writeNumber(narrow))
}

func (o *Office) vector(a arguments) string {
	vector, err := forks.Vector(string(as[fork](o.file(a.name))))
	return a.answer(err, writeList(vector))
}

func (o *Office) below(a arguments) string {
	below, err := forks.Below(o.twoForks(a))
	return a.answer(err, writeTruth(below))
}

func (o *Office) turns(a arguments) string {
	way, err := forks.Way(o.twoForks(a))
	// A way has one tree more than turns.
	return a.answer(err, writeNumber(len(way)-1))
}

func (o *Office) cuts(a arguments) string {
	cuts, err := seals.Least(string(as[chain](o.file(a.name))))
	return a.answer(err, writeList(cuts))
}

func (o *Office) ring(a arguments) string {
	cuts, err := seals.Ring(string(as[chain](o.file(a.name))))
	return a.answer(err, writeList(cuts))
}

func (o *Office) zero(a arguments) string {
	l := as[list](o.file(a.name))
	part, err := sums.Zero(l.group, l.elements)
	return a.answer(err, writeList(part))
}

func (o *Office) bound(a arguments) string {
	bound, err := sums.Bound(as[list](o.file(a.name)).group)
	return a.answer(err, writeNumber(bound))
}

func (o *Office) numbers(a arguments) string {
	n, err := order.Numbers(as[pile](o.file(a.name)))
	return a.answer(err, writeNumber(n.Inv), writeNumber(n.Maj), writeNumber(n.Des), writeNumber(n.Exc), writeNumber(n.Cycles), writeNumber(n.Records))
}

func (o *Office) index(a arguments) string {
	index, err := order.Index(as[pile](o.file(a.name)))
	return a.answer(err, writeNumber(index))
}

func (o *Office) permanent(a arguments) string {
	permanent, err := posts.Permanent(as[table](o.file(a.name)))
	return a.answer(err, writeNumber(permanent))
}

func (o *Office) choose(a arguments) string {
	choice, block, err := posts.Choose(as[table](o.file(a.name)))
	// A block is never empty, but the choice of a table without rows is.
	if len(block) > 0 {
		return a.answer(err, writeTruth(false), writeList(block))
	}
	return a.answer(err, writeTruth(true), writeList(choice))
}

func (o *Office) best(a arguments) string {
	tour, length, err := round.Best(as[miles](o.file(a.name)))
	return a.answer(err, writeList(tour), writeNumber(length))
}

func (o *Office) bounded(a arguments) string {
	_, bound, err := round.Climb(as[miles](o.file(a.name)), a.numbers[0])
	return a.answer(err, writeNumber(bound))
}

func (o *Office) metric(a arguments) string {
	_, metric, err := round.Metric(as[miles](o.file(a.name)))
	return a.answer(err, writeTruth(metric))
}

func (o *Office) time(a arguments) string {
	l := as[line](o.file(a.name))
	time, err := relay.Time(l.n, l.pairs, a.numbers[0])
	return a.answer(err, writeNumber(time))
}

func (o *Office) centers(a arguments) string {
	l := as[line](o.file(a.name))
	centers, time, err := relay.Centers(l.n, l.pairs)
	return a.answer(err, writeList(centers), writeNumber(time))
}

func (o *Office) reset(a arguments) string {
	word, state, err := clock.Reset(as[machine](o.file(a.name)))
	return a.answer(err, writeWord(word), writeNumber(state))
}

func (o *Office) rank(a arguments) string {
	rank, _, err := clock.Rank(as[machine](o.file(a.name)))
	return a.answer(err, writeNumber(rank))
}

func (o *Office) square(a arguments) string {
	position, period, err := marks.Square(string(as[mark](o.file(a.name))))
	return a.answer(err, writeNumber(position), writeNumber(period))
}

func (o *Office) greatest(a arguments) string {
	exponent, _, _, err := marks.Greatest(string(as[mark](o.file(a.name))))
	return a.answer(err, writeFraction(exponent))
}
