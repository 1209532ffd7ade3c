package order_test

import (
	"testing"

	"lampbox/order"
)

// P6.2: Second by the terms, and First undoes it.
func TestSecond(t *testing.T) {
	for _, of := range someOrders() {
		second := secondByTerms(of)
		wantList(t, "Second", order.Second, of, second)
		wantList(t, "First", order.First, second, of)
	}
}

// P6.2: every order is the second order of one.
func TestFirst(t *testing.T) {
	for _, of := range someOrders() {
		wantList(t, "Second", order.Second, list(t, order.First, of), of)
	}
}

// P6.2: Written by the terms, and Cycled undoes it.
func TestWritten(t *testing.T) {
	for _, of := range someOrders() {
		written := writtenByTerms(of)
		wantList(t, "Written", order.Written, of, written)
		wantList(t, "Cycled", order.Cycled, written, of)
	}
}

// P6.2: every order is the written cycles of one.
func TestCycled(t *testing.T) {
	for _, of := range someOrders() {
		wantList(t, "Written", order.Written, list(t, order.Cycled, of), of)
	}
}

// P6.2: the chapter's examples, the empty order, and orders at the limit.
func TestKnownTurns(t *testing.T) {
	for _, x := range []struct{ first, second []int }{
		{nil, nil},
		{[]int{}, nil},
		{[]int{1}, []int{1}},
		{[]int{2, 1}, []int{2, 1}},
		{[]int{1, 3, 2}, []int{3, 1, 2}},
		{[]int{3, 1, 2}, []int{1, 3, 2}},
		{[]int{2, 3, 1}, []int{2, 3, 1}},
		{[]int{7, 4, 9, 2, 6, 1, 5, 8, 3}, []int{4, 7, 2, 6, 1, 9, 5, 8, 3}},
		{rising(12), rising(12)},
		{falling(12), falling(12)},
	} {
		wantList(t, "Second", order.Second, x.first, x.second)
		wantList(t, "First", order.First, x.second, x.first)
	}
	for _, x := range []struct{ cycled, written []int }{
		{nil, nil},
		{[]int{}, nil},
		{[]int{1}, []int{1}},
		{[]int{2, 1, 3}, []int{2, 1, 3}},
		{[]int{2, 3, 1}, []int{3, 1, 2}},
		{[]int{3, 1, 2}, []int{3, 2, 1}},
		{[]int{3, 4, 1, 2}, []int{3, 1, 4, 2}},
		{[]int{4, 3, 2, 1}, []int{3, 2, 4, 1}},
		{rising(12), rising(12)},
		{falling(12), []int{7, 6, 8, 5, 9, 4, 10, 3, 11, 2, 12, 1}},
	} {
		wantList(t, "Written", order.Written, x.cycled, x.written)
		wantList(t, "Cycled", order.Cycled, x.written, x.cycled)
	}
}
