package order_test

import (
	"math/rand/v2"
	"slices"
	"testing"

	"lampbox/api"
	"lampbox/order"
)

// P6.1.
func TestNumbers(t *testing.T) {
	for _, list := range someOrders() {
		if got, want := numbers(t, list), numbersByTerms(list); got != want {
			t.Fatalf("Numbers(%v) = %+v, want %+v", list, got, want)
		}
	}
}

// P6.1: the chapter's example, the empty order, and orders at the limit.
func TestNumbersOfKnownOrders(t *testing.T) {
	for _, x := range []struct {
		list []int
		want api.Numbers
	}{
		{nil, api.Numbers{}},
		{[]int{}, api.Numbers{}},
		{[]int{1}, api.Numbers{Cycles: 1, Records: 1}},
		{[]int{3, 1, 2}, api.Numbers{Inv: 2, Maj: 1, Des: 1, Exc: 1, Cycles: 1, Records: 1}},
		{[]int{1, 3, 2}, api.Numbers{Inv: 1, Maj: 2, Des: 1, Exc: 1, Cycles: 2, Records: 2}},
		{[]int{2, 3, 1}, api.Numbers{Inv: 2, Maj: 2, Des: 1, Exc: 2, Cycles: 1, Records: 2}},
		{[]int{3, 2, 1}, api.Numbers{Inv: 3, Maj: 3, Des: 2, Exc: 1, Cycles: 2, Records: 1}},
		{[]int{2, 1, 4, 3}, api.Numbers{Inv: 2, Maj: 4, Des: 2, Exc: 2, Cycles: 2, Records: 2}},
		{rising(12), api.Numbers{Cycles: 12, Records: 12}},
		{falling(12), api.Numbers{Inv: 66, Maj: 66, Des: 11, Exc: 6, Cycles: 6, Records: 1}},
	} {
		if got := numbers(t, x.list); got != x.want {
			t.Errorf("Numbers(%v) = %+v, want %+v", x.list, got, x.want)
		}
	}
}

// P6.1.
func TestInverse(t *testing.T) {
	for _, of := range someOrders() {
		wantList(t, "Inverse", order.Inverse, of, inverseByTerms(of))
	}
	wantList(t, "Inverse", order.Inverse, nil, nil)
	wantList(t, "Inverse", order.Inverse, []int{3, 1, 2}, []int{2, 3, 1})
	wantList(t, "Inverse", order.Inverse, []int{2, 4, 1, 3}, []int{3, 1, 4, 2})
}

// P6.1: Order undoes Table.
func TestTable(t *testing.T) {
	for _, of := range someOrders() {
		table := tableByTerms(of)
		wantList(t, "Table", order.Table, of, table)
		wantList(t, "Order", order.Order, table, of)
	}
	wantList(t, "Table", order.Table, nil, nil)
	wantList(t, "Order", order.Order, nil, nil)
	wantList(t, "Table", order.Table, []int{3, 1, 2}, []int{2, 0, 0})
	wantList(t, "Order", order.Order, []int{1, 1, 0}, []int{2, 3, 1})
	wantList(t, "Order", order.Order, []int{11, 10, 9, 8, 7, 6, 5, 4, 3, 2, 1, 0}, falling(12))
	wantList(t, "Order", order.Order, make([]int, 12), rising(12))
}

// P6.1: Order of all lists of small numbers: just the tables are right, and each is the table of its order.
func TestOrderOfAllLists(t *testing.T) {
	lists := [][]int{{}}
	for n := 1; n <= 5; n++ {
		var longer [][]int
		for _, list := range lists {
			for number := -1; number <= 5; number++ {
				longer = append(longer, slices.Concat(list, []int{number}))
			}
		}
		lists = longer
		right := 0
		for _, table := range lists {
			got, err := order.Order(table)
			if !fits(table) {
				if err != api.ErrArg || len(got) != 0 {
					t.Fatalf("Order(%v) = %v %d", table, got, err)
				}
				continue
			}
			right++
			if err != api.OK || !isOrder(got) || !slices.Equal(tableByTerms(got), table) {
				t.Fatalf("Order(%v) = %v %d", table, got, err)
			}
		}
		if right != factorial(n) {
			t.Errorf("%d tables of %d numbers", right, n)
		}
	}
}

// fits reports whether each number of a table is at most how many numbers stand after it.
func fits(table []int) bool {
	for i, number := range table {
		if number < 0 || number > len(table)-1-i {
			return false
		}
	}
	return true
}

// P6.1: random tables up to the limit, and the same ones with one wrong number.
func TestOrderOfWrongTables(t *testing.T) {
	r := rand.New(rand.NewPCG(6, 2))
	for n := 1; n <= 12; n++ {
		for range 50 {
			table := make([]int, n)
			for i := range table {
				table[i] = r.IntN(n - i)
			}
			if got := list(t, order.Order, table); !isOrder(got) || !slices.Equal(tableByTerms(got), table) {
				t.Fatalf("Order(%v) = %v", table, got)
			}
			for at := range table {
				for _, wrong := range []int{-1, n - at, n - at + 1, huge, -huge - 1, 1 << 32} {
					other := slices.Clone(table)
					other[at] = wrong
					wantErr(t, "Order", order.Order, other)
				}
			}
		}
	}
	for _, length := range []int{13, 14, 100, 1000000} {
		wantErr(t, "Order", order.Order, make([]int, length))
	}
}

func wantErr(t *testing.T, what string, f func([]int) ([]int, api.Errno), of []int) {
	t.Helper()
	if got, err := f(of); err != api.ErrArg || len(got) != 0 {
		t.Fatalf("%s(%v) of %d numbers = %v %d", what, of[:min(len(of), 20)], len(of), got, err)
	}
}
