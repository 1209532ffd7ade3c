package order_test

import (
	"math/rand/v2"
	"slices"
	"testing"

	"lampbox/api"
	"lampbox/order"
)

func wantCount(t *testing.T, what string, f func(n, k int) (int, api.Errno), n, k, want int) {
	t.Helper()
	if got, err := f(n, k); err != api.OK || got != want {
		t.Fatalf("%s(%d, %d) = %d %d, want %d", what, n, k, got, err, want)
	}
}

// P6.3: all orders of few numbers, counted one by one.
func TestCountsOfAllOrders(t *testing.T) {
	for n := range 9 {
		var inv, des, cycles [40]int
		for _, list := range allOrders(n) {
			found := numbersByTerms(list)
			inv[found.Inv]++
			des[found.Des]++
			cycles[found.Cycles]++
		}
		for k := range inv {
			wantCount(t, "Inversions", order.Inversions, n, k, inv[k])
			wantCount(t, "Descents", order.Descents, n, k, des[k])
			wantCount(t, "CyclesOf", order.CyclesOf, n, k, cycles[k])
		}
	}
}

// times multiplies two polynomials.
func times(a, b []int) []int {
	product := make([]int, len(a)+len(b)-1)
	for i, x := range a {
		for j, y := range b {
			product[i+j] += x * y
		}
	}
	return product
}

// P6.3: the inversions and the cycles are the coefficients of known products, up to the limit.
func TestCountsAsProducts(t *testing.T) {
	inv, cycles := []int{1}, []int{1}
	for n := range api.MaxCounted + 1 {
		if n > 0 {
			inv = times(inv, slices.Repeat([]int{1}, n))
			cycles = times(cycles, []int{n - 1, 1})
		}
		for k := range 200 {
			wantCount(t, "Inversions", order.Inversions, n, k, coefficient(inv, k))
			wantCount(t, "CyclesOf", order.CyclesOf, n, k, coefficient(cycles, k))
		}
	}
}

func coefficient(list []int, k int) int {
	if k < len(list) {
		return list[k]
	}
	return 0
}

// P6.3: the descents by a sum of powers. It is exact modulo 2^64, and so is the result, which is smaller.
func TestDescentsAsSums(t *testing.T) {
	for n := 1; n <= api.MaxCounted; n++ {
		for k := range 200 {
			want, choose := 0, 1
			for j := 0; j <= k && k < n; j++ {
				power := choose
				for range n {
					power *= k + 1 - j
				}
				want += power
				choose = -choose * (n + 1 - j) / (j + 1)
			}
			wantCount(t, "Descents", order.Descents, n, k, want)
		}
	}
}

// P6.3: known numbers; 0 if there are none; the empty order has no inversion, no descent, and no cycle.
func TestKnownCounts(t *testing.T) {
	for _, x := range []struct{ n, k, inv, des, cycles int }{
		{0, 0, 1, 1, 1},
		{0, 1, 0, 0, 0},
		{1, 0, 1, 1, 0},
		{1, 1, 0, 0, 1},
		{2, 1, 1, 1, 1},
		{3, 2, 2, 1, 3},
		{4, 0, 1, 1, 0},
		{4, 1, 3, 11, 6},
		{4, 2, 5, 11, 11},
		{4, 3, 6, 1, 6},
		{4, 4, 5, 0, 1},
		{4, 6, 1, 0, 0},
		{4, 7, 0, 0, 0},
		{5, 2, 9, 66, 50},
		{18, 0, 1, 1, 0},
		{18, 1, 17, 262125, factorial(17)},
		{18, 17, 661386105, 1, 153},
		{18, 18, 1178290263, 0, 1},
		{18, 153, 1, 0, 0},
		{18, 154, 0, 0, 0},
		{18, huge, 0, 0, 0},
		{0, huge, 0, 0, 0},
		{18, 1 << 32, 0, 0, 0},
	} {
		wantCount(t, "Inversions", order.Inversions, x.n, x.k, x.inv)
		wantCount(t, "Descents", order.Descents, x.n, x.k, x.des)
		wantCount(t, "CyclesOf", order.CyclesOf, x.n, x.k, x.cycles)
	}
}

// P6.3: all counts of n together are all orders of n numbers.
func TestSumsOfCounts(t *testing.T) {
	for n := range api.MaxCounted + 1 {
		for _, f := range []func(n, k int) (int, api.Errno){order.Inversions, order.Descents, order.CyclesOf} {
			sum := 0
			for k := range 160 {
				many, _ := f(n, k)
				sum += many
			}
			if sum != factorial(n) {
				t.Errorf("%d orders of %d numbers", sum, n)
			}
		}
	}
}

// P6.3.
func TestCountsOfWrongArguments(t *testing.T) {
	for _, f := range []func(n, k int) (int, api.Errno){order.Inversions, order.Descents, order.CyclesOf} {
		for _, x := range [][2]int{
			{-1, 0}, {19, 0}, {20, 1}, {huge, 0}, {-huge - 1, 0}, {1 << 32, 0}, {1<<32 + 1, 1}, {huge, huge}, {-huge - 1, -huge - 1},
			{0, -1}, {1, -1}, {4, -1}, {18, -1}, {18, -huge}, {4, -huge - 1}, {4, -1 << 32}, {-1, -1}, {19, -1},
		} {
			if got, err := f(x[0], x[1]); err != api.ErrArg || got != 0 {
				t.Errorf("%d, %d: %d %d", x[0], x[1], got, err)
			}
		}
	}
}

func wantItem(t *testing.T, n, k int, want []int) {
	t.Helper()
	if got, err := order.Item(n, k); err != api.OK || !slices.Equal(got, want) {
		t.Fatalf("Item(%d, %d) = %v %d, want %v", n, k, got, err, want)
	}
	if got, err := order.Index(want); err != api.OK || got != k {
		t.Fatalf("Index(%v) = %d %d, want %d", want, got, err, k)
	}
}

// P6.3: all orders of few numbers, in their order.
func TestItem(t *testing.T) {
	for n := range 9 {
		for k, list := range allOrders(n) {
			wantItem(t, n, k, list)
		}
	}
}

// P6.3: the first and last ones of more numbers, and orders one after the other.
func TestItemsOfManyNumbers(t *testing.T) {
	r := rand.New(rand.NewPCG(6, 3))
	for n := 2; n <= 12; n++ {
		wantItem(t, n, 0, rising(n))
		wantItem(t, n, factorial(n)-1, falling(n))
		wantItem(t, n, factorial(n-1), append([]int{2, 1}, rising(n)[2:]...))
		for range 300 {
			k := r.IntN(factorial(n) - 1)
			item, _ := order.Item(n, k)
			wantItem(t, n, k+1, next(item))
		}
	}
	wantItem(t, 0, 0, nil)
	wantItem(t, 1, 0, []int{1})
	wantItem(t, 3, 4, []int{3, 1, 2})
}

// next is the order that comes after one in lexicographic order.
func next(list []int) []int {
	list = slices.Clone(list)
	at := len(list) - 2
	for list[at] > list[at+1] {
		at--
	}
	with := len(list) - 1
	for list[with] < list[at] {
		with--
	}
	list[at], list[with] = list[with], list[at]
	slices.Reverse(list[at+1:])
	return list
}

// P6.3: the number n is from 0 to 12, and k is below the number of orders.
func TestItemOfWrongArguments(t *testing.T) {
	wrong := [][2]int{{-1, 0}, {13, 0}, {18, 0}, {huge, 0}, {-huge - 1, 0}, {1 << 32, 0}, {13, factorial(12)}, {-1, -1}, {-huge - 1, -huge - 1}}
	for n := range 13 {
		for _, k := range []int{-1, -2, -factorial(n), -huge, -huge - 1, factorial(n), factorial(n) + 1, 2 * factorial(n), huge} {
			wrong = append(wrong, [2]int{n, k})
		}
	}
	for _, x := range wrong {
		if got, err := order.Item(x[0], x[1]); err != api.ErrArg || len(got) != 0 {
			t.Errorf("Item(%d, %d) = %v %d", x[0], x[1], got, err)
		}
	}
}
