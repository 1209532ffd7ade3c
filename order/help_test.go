package order_test

import (
	"math/rand/v2"
	"slices"
	"testing"

	"lampbox/api"
	"lampbox/order"
)

const huge = 1<<63 - 1

// allOrders are all orders of n numbers, in lexicographic order.
func allOrders(n int) [][]int {
	var all [][]int
	var further func(begun []int)
	further = func(begun []int) {
		if len(begun) == n {
			all = append(all, slices.Clone(begun))
		}
		for number := 1; number <= n; number++ {
			if !slices.Contains(begun, number) {
				further(slices.Concat(begun, []int{number}))
			}
		}
	}
	further(nil)
	return all
}

// someOrders are all orders of few numbers, and random ones of each number up to the limit.
func someOrders() [][]int {
	var some [][]int
	for n := range 8 {
		some = append(some, allOrders(n)...)
	}
	r := rand.New(rand.NewPCG(6, 1))
	for n := 8; n <= 12; n++ {
		for range 500 {
			some = append(some, randomOrder(r, n))
		}
		some = append(some, rising(n), falling(n))
	}
	return some
}

func randomOrder(r *rand.Rand, n int) []int {
	list := r.Perm(n)
	for i := range list {
		list[i]++
	}
	return list
}

func rising(n int) []int {
	var list []int
	for number := 1; number <= n; number++ {
		list = append(list, number)
	}
	return list
}

func falling(n int) []int {
	list := rising(n)
	slices.Reverse(list)
	return list
}

// notOrders are lists that are no orders.
func notOrders() [][]int {
	all := [][]int{rising(13), falling(13), rising(14), rising(1000), make([]int, 1000000), slices.Repeat([]int{1}, 13)}
	wrong := []int{0, -1, -2, huge, -huge, -huge - 1, 1 << 32, 1<<32 + 1}
	for n := 1; n <= 12; n++ {
		for _, list := range [][]int{rising(n), falling(n)} {
			for at := range list {
				for _, number := range append(wrong, n+1, n+2, 13, list[(at+1)%n]) {
					other := slices.Clone(list)
					if other[at] = number; number != list[at] {
						all = append(all, other)
					}
				}
			}
		}
		other := rising(n)
		for i := range other {
			other[i]--
		}
		all = append(all, other, make([]int, n), append(rising(n), n), append(rising(n), 0), append([]int{0}, rising(n)...))
	}
	return slices.DeleteFunc(all, isOrder)
}

// isOrder holds the terms: different numbers from 1 to n.
func isOrder(list []int) bool {
	for i, number := range list {
		if number < 1 || number > len(list) || slices.Contains(list[:i], number) {
			return false
		}
	}
	return len(list) <= api.MaxOrder
}

// wantList fails if a function does not return a list for an order.
func wantList(t *testing.T, what string, f func([]int) ([]int, api.Errno), of, want []int) {
	t.Helper()
	if got, err := f(of); err != api.OK || !slices.Equal(got, want) {
		t.Fatalf("%s(%v) = %v %d, want %v", what, of, got, err, want)
	}
}

// list returns what a function returns for an order, which must be without an error.
func list(t *testing.T, f func([]int) ([]int, api.Errno), of []int) []int {
	t.Helper()
	got, err := f(of)
	if err != api.OK {
		t.Fatalf("of %v: error %d", of, err)
	}
	return got
}

func numbers(t *testing.T, of []int) api.Numbers {
	t.Helper()
	got, err := order.Numbers(of)
	if err != api.OK {
		t.Fatalf("Numbers(%v): error %d", of, err)
	}
	return got
}

// numbersByTerms takes all pairs of positions, and the positions one by one.
func numbersByTerms(list []int) api.Numbers {
	var n api.Numbers
	for i := range list {
		record := true
		for j := range i {
			if list[j] > list[i] {
				n.Inv++
				record = false
			}
		}
		if record {
			n.Records++
		}
		if i >= 1 && list[i-1] > list[i] {
			n.Des++
			n.Maj += i
		}
		if list[i] > i+1 {
			n.Exc++
		}
	}
	n.Cycles = len(cyclesByTerms(list))
	return n
}

// cyclesByTerms are the cycles of the map that sends i + 1 to the number at i, each from its smallest number on.
func cyclesByTerms(list []int) [][]int {
	var all [][]int
	var seen [api.MaxOrder + 1]bool
	for start := 1; start <= len(list); start++ {
		var cycle []int
		for number := start; !seen[number]; number = list[number-1] {
			seen[number] = true
			cycle = append(cycle, number)
		}
		if cycle != nil {
			all = append(all, cycle)
		}
	}
	return all
}

// writtenByTerms turns each cycle until its greatest number is the first one, and sorts the cycles.
func writtenByTerms(list []int) []int {
	all := cyclesByTerms(list)
	for i, cycle := range all {
		for cycle[0] != slices.Max(cycle) {
			cycle = append(cycle[1:], cycle[0])
		}
		all[i] = cycle
	}
	slices.SortFunc(all, func(a, b []int) int { return a[0] - b[0] })
	return slices.Concat(all...)
}

// secondByTerms divides the list into parts, turns them, and joins them again, number by number.
func secondByTerms(of []int) []int {
	var list []int
	for _, a := range of {
		var parts [][]int
		var part []int
		for _, number := range list {
			part = append(part, number)
			if last := list[len(list)-1]; last > a && number > a || last < a && number < a {
				parts = append(parts, part)
				part = nil
			}
		}
		list = nil
		for _, part := range parts {
			last := part[len(part)-1]
			list = append(list, last)
			list = append(list, part[:len(part)-1]...)
		}
		list = append(list, a)
	}
	return list
}

func inverseByTerms(list []int) []int {
	inverse := make([]int, len(list))
	for i, p := range list {
		inverse[p-1] = i + 1
	}
	return inverse
}

func tableByTerms(list []int) []int {
	table := make([]int, len(list))
	for i := range list {
		for j := i + 1; j < len(list); j++ {
			if list[j] < list[i] {
				table[i]++
			}
		}
	}
	return table
}

func factorial(n int) int {
	product := 1
	for i := 2; i <= n; i++ {
		product *= i
	}
	return product
}
