package order_test

import (
	"reflect"
	"slices"
	"testing"

	"lampbox/api"
	"lampbox/order"
)

func turns() map[string]func([]int) ([]int, api.Errno) {
	return map[string]func([]int) ([]int, api.Errno){
		"Second": order.Second, "First": order.First, "Written": order.Written, "Cycled": order.Cycled,
		"Inverse": order.Inverse, "Table": order.Table,
	}
}

// P6.1 to P6.3: what is not an order is an error of every function that takes one.
func TestNotOrders(t *testing.T) {
	for _, of := range notOrders() {
		for what, f := range turns() {
			wantErr(t, what, f, of)
		}
		if got, err := order.Numbers(of); err != api.ErrArg || got != (api.Numbers{}) {
			t.Fatalf("Numbers(%v) = %v %d", of, got, err)
		}
		if got, err := order.Index(of); err != api.ErrArg || got != 0 {
			t.Fatalf("Index(%v) = %d %d", of, got, err)
		}
	}
}

// P6.1 to P6.3: of all short lists just the orders are right.
func TestShortLists(t *testing.T) {
	lists := [][]int{{}}
	for range 4 {
		var longer [][]int
		for _, of := range lists {
			for number := -1; number <= 5; number++ {
				longer = append(longer, slices.Concat(of, []int{number}))
			}
		}
		lists = longer
		for _, of := range lists {
			if _, err := order.Index(of); isOrder(of) != (err == api.OK) {
				t.Fatalf("Index(%v): error %d", of, err)
			}
		}
	}
}

// P2, rule 5: a second call returns the same; arguments stay as they are; results are new memory.
func TestCallsLeaveNothingBehind(t *testing.T) {
	for _, of := range someOrders() {
		table, place := tableByTerms(of), 0
		before, tableBefore := slices.Clone(of), slices.Clone(table)
		all := func() [][]int {
			var results [][]int
			for _, what := range []string{"Second", "First", "Written", "Cycled", "Inverse", "Table"} {
				results = append(results, list(t, turns()[what], of))
			}
			place, _ = order.Index(of)
			item, _ := order.Item(len(of), place)
			return append(results, item, list(t, order.Order, table))
		}
		first, kept := all(), all()
		if !reflect.DeepEqual(first, kept) {
			t.Fatalf("two calls differ: %v, %v", first, kept)
		}
		for _, result := range first {
			scratch(result)
		}
		if again := all(); !reflect.DeepEqual(again, kept) || !slices.Equal(of, before) || !slices.Equal(table, tableBefore) {
			t.Fatalf("results or arguments share memory: %v, %v, %v", again, kept, of)
		}
	}
}

// scratch writes over a result, also in the room behind its end.
func scratch(list []int) {
	list = list[:cap(list)]
	for i := range list {
		list[i] = -7
	}
}

// Rule 5: the room behind an argument's end is left alone.
func TestRoomBehindArguments(t *testing.T) {
	for _, of := range [][]int{{}, {1}, {2, 1}, {3, 1, 2}, {4, 3, 1, 2}} {
		for what, f := range turns() {
			room := append(slices.Clone(of), 91, 92, 93)
			list(t, f, room[:len(of)])
			if !slices.Equal(room, append(slices.Clone(of), 91, 92, 93)) {
				t.Errorf("%s(%v) writes behind its argument: %v", what, of, room)
			}
		}
	}
}

func descentsOf(list []int) []int {
	var all []int
	for i := 1; i < len(list); i++ {
		if list[i-1] > list[i] {
			all = append(all, i)
		}
	}
	return all
}

// P6.4: Inv of the second order is Maj of the order; their inverses have the same descents.
func TestSecondKeeps(t *testing.T) {
	for _, of := range someOrders() {
		second := list(t, order.Second, of)
		if numbers(t, second).Inv != numbers(t, of).Maj {
			t.Fatalf("%v: the second order %v has the wrong Inv", of, second)
		}
		if !slices.Equal(descentsOf(list(t, order.Inverse, second)), descentsOf(list(t, order.Inverse, of))) {
			t.Fatalf("%v: the inverse of %v has other descents", of, second)
		}
	}
}

// P6.4: records are cycles; an inverse has as many inversions; the sum of the table is Inv.
func TestNumbersAgree(t *testing.T) {
	for _, of := range someOrders() {
		n := numbers(t, of)
		if got := numbers(t, list(t, order.Written, of)).Records; got != n.Cycles {
			t.Fatalf("%v: %d records, %d cycles", of, got, n.Cycles)
		}
		if got := numbers(t, list(t, order.Inverse, of)).Inv; got != n.Inv {
			t.Fatalf("%v: the inverse has %d inversions", of, got)
		}
		sum := 0
		for _, smaller := range list(t, order.Table, of) {
			sum += smaller
		}
		if sum != n.Inv {
			t.Fatalf("%v: the table's sum is %d", of, sum)
		}
	}
}

// P6.4: Exc and Des are equally distributed, as Descents counts.
func TestExcedancesAndDescents(t *testing.T) {
	for n := range 9 {
		var des, exc [9]int
		for _, of := range allOrders(n) {
			found := numbers(t, of)
			des[found.Des]++
			exc[found.Exc]++
		}
		for k := range des {
			many, _ := order.Descents(n, k)
			if des[k] != exc[k] || des[k] != many {
				t.Errorf("n %d, k %d: %d, %d, %d", n, k, des[k], exc[k], many)
			}
		}
	}
}
