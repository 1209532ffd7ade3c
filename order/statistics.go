package order

import "lampbox/api"

// statistic names one of the numbers of an order.
type statistic int

const (
	inversions statistic = iota
	major
	descents
	excedances
	cycles
	records
)

// statistics returns the method that finds each number of an order.
func statistics() map[statistic]func(permutation) int {
	return map[statistic]func(permutation) int{
		inversions: permutation.inversions,
		major:      permutation.major,
		descents:   permutation.descents,
		excedances: permutation.excedances,
		cycles:     permutation.cycles,
		records:    permutation.records,
	}
}

func (p permutation) numbers() api.Numbers {
	find := statistics()
	return api.Numbers{
		Inv:     find[inversions](p),
		Maj:     find[major](p),
		Des:     find[descents](p),
		Exc:     find[excedances](p),
		Cycles:  find[cycles](p),
		Records: find[records](p),
	}
}

// inversions adds the table, which has each inversion at its first position.
func (p permutation) inversions() int {
	sum := 0
	for _, smaller := range p.table() {
		sum += smaller
	}
	return sum
}

func (p permutation) major() int {
	sum := 0
	for i := range p.length() {
		if p.isDescent(i) {
			sum += i
		}
	}
	return sum
}

func (p permutation) descents() int {
	return p.count(permutation.isDescent)
}

func (p permutation) excedances() int {
	return p.count(permutation.isExcedance)
}

// cycles counts the greatest numbers of the cycles, of which each has one.
func (p permutation) cycles() int {
	return p.count(permutation.isGreatest)
}

func (p permutation) records() int {
	return p.count(permutation.isRecord)
}

// count returns how many positions are of a kind.
func (p permutation) count(isOne func(permutation, int) bool) int {
	many := 0
	for i := range p.length() {
		if isOne(p, i) {
			many++
		}
	}
	return many
}
