package office

import "lampbox/api"

// made makes a file, and returns what an act says of it.
func (o *Office) made(name string, f file) string {
	demand(!o.has(name) && f.isRight(), api.ErrArg)
	demand(!o.isFull(), api.ErrFull)
	o.add(name, f)
	return "made " + name
}

func (o *Office) graph(a arguments) string {
	return o.made(a.name, graph{a.numbers[0], items(a.lists, 2, func(l []int) api.Edge { return api.Edge{A: l[0], B: l[1]} })})
}

func (o *Office) net(a arguments) string {
	return o.made(a.name, net{a.numbers[0], items(a.lists, 3, func(l []int) api.Street { return api.Street{A: l[0], B: l[1], Weight: l[2]} })})
}

func (o *Office) fork(a arguments) string {
	return o.made(a.name, fork(a.text))
}

func (o *Office) chain(a arguments) string {
	return o.made(a.name, chain(a.text))
}

func (o *Office) list(a arguments) string {
	return o.made(a.name, list{a.list, a.lists})
}

func (o *Office) pile(a arguments) string {
	return o.made(a.name, pile(a.list))
}

func (o *Office) table(a arguments) string {
	return o.made(a.name, table(a.lists))
}

func (o *Office) miles(a arguments) string {
	return o.made(a.name, miles(a.lists))
}

func (o *Office) line(a arguments) string {
	return o.made(a.name, line{a.numbers[0], items(a.lists, 2, func(l []int) [2]int { return [2]int{l[0], l[1]} })})
}

func (o *Office) machine(a arguments) string {
	return o.made(a.name, machine(a.lists))
}

func (o *Office) mark(a arguments) string {
	return o.made(a.name, mark(a.text))
}

// items returns what lists of so many numbers stand for; an act is wrong if one has another number of them.
func items[T any](lists [][]int, many int, item func([]int) T) []T {
	var all []T
	for _, l := range lists {
		demand(len(l) == many, api.ErrArg)
		all = append(all, item(l))
	}
	return all
}
