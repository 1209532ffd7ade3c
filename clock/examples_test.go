package clock_test

import (
	"math/rand/v2"
	"slices"
	"testing"

	"lampbox/api"
	"lampbox/clock"
)

// P10.3: the buttons of slow machines.
func TestSlow(t *testing.T) {
	for n, want := range map[int][][]int{
		1: {{0}, {0}},
		2: {{1, 0}, {0, 0}},
		3: {{1, 2, 0}, {0, 1, 0}},
		4: {{1, 2, 3, 0}, {0, 1, 2, 0}},
		9: {{1, 2, 3, 4, 5, 6, 7, 8, 0}, {0, 1, 2, 3, 4, 5, 6, 7, 0}},
	} {
		if got := slowOf(t, n); !slices.EqualFunc(got, want, slices.Equal) {
			t.Errorf("Slow(%d) = %v, want %v", n, got, want)
		}
	}
	for n := 1; n <= api.MaxStates; n++ {
		slow := slowOf(t, n)
		if len(slow) != 2 || len(slow[0]) != n || len(slow[1]) != n {
			t.Fatalf("Slow(%d) = %v", n, slow)
		}
		for q := range n {
			stays := q
			if q == n-1 {
				stays = 0
			}
			if slow[0][q] != (q+1)%n || slow[1][q] != stays {
				t.Fatalf("Slow(%d) = %v", n, slow)
			}
		}
	}
}

// P10.3: numbers of states out of range.
func TestNoSlowMachine(t *testing.T) {
	for _, n := range []int{0, -1, -9, 10, 11, 16, 64, 1 << 32, 1<<32 + 3, huge, -huge - 1} {
		machine, err := clock.Slow(n)
		wantErr(t, n, err, api.ErrArg)
		if len(machine) > 0 {
			t.Fatalf("Slow(%d) = %v with an error", n, machine)
		}
	}
}

// P10.3: machines that are known to be the same one, or not.
func TestKnownSame(t *testing.T) {
	for _, x := range []struct {
		machine, other [][]int
		want           bool
	}{
		{[][]int{{0}}, [][]int{{0}}, true},
		{[][]int{{0}}, [][]int{{0}, {0}}, false},
		{[][]int{{0}}, [][]int{{0, 1}}, false},
		{[][]int{{0, 0}}, [][]int{{1, 1}}, true},
		{[][]int{{0, 0}}, [][]int{{1, 0}}, false},
		{[][]int{{0, 1}}, [][]int{{1, 0}}, false},
		// Buttons keep their letters.
		{[][]int{{0, 0}, {1, 0}}, [][]int{{1, 0}, {0, 0}}, false},
		{[][]int{{0, 0}, {1, 1}}, [][]int{{1, 1}, {0, 0}}, true},
		{[][]int{{0, 0}, {1, 1}}, [][]int{{1, 1}, {1, 1}}, false},
		// All buttons are renamed in the same way.
		{[][]int{{1, 2, 0}, {1, 2, 0}}, [][]int{{1, 2, 0}, {2, 0, 1}}, false},
		{[][]int{{1, 2, 0}, {2, 0, 1}}, [][]int{{2, 0, 1}, {1, 2, 0}}, true},
		{[][]int{{1, 0, 3, 2}, {2, 3, 0, 1}}, [][]int{{2, 3, 0, 1}, {3, 2, 1, 0}}, true},
		// As many states have each number of others before them, but the machines differ.
		{[][]int{{1, 2, 0, 4, 5, 3}}, [][]int{{1, 2, 3, 4, 5, 0}}, false},
		{[][]int{{1, 0, 3, 2, 0, 2}}, [][]int{{1, 0, 3, 2, 0, 1}}, false},
		{[][]int{{1, 0, 3, 2, 0, 2}}, [][]int{{1, 0, 3, 2, 1, 3}}, true},
	} {
		for range 2 {
			if got := isSame(t, x.machine, x.other); got != x.want {
				t.Errorf("Same(%v, %v) = %v", x.machine, x.other, got)
			}
			x.machine, x.other = x.other, x.machine
		}
	}
}

// permutations are all orders of the numbers below n.
func permutations(n int) [][]int {
	orders := [][]int{{}}
	for number := range n {
		var longer [][]int
		for _, order := range orders {
			for i := range number + 1 {
				longer = append(longer, slices.Insert(slices.Clone(order), i, number))
			}
		}
		orders = longer
	}
	return orders
}

func isSameByAllNames(machine, other [][]int, orders [][]int) bool {
	return slices.ContainsFunc(orders, func(names []int) bool {
		return slices.EqualFunc(renamed(machine, names), other, slices.Equal)
	})
}

// P10.3: every two machines with few states.
func TestSameByAllNames(t *testing.T) {
	for _, x := range [][2]int{{1, 1}, {1, 2}, {2, 1}, {2, 2}, {2, 3}, {3, 1}, {3, 2}, {4, 1}} {
		orders := permutations(x[0])
		machines := allMachines(x[0], x[1])
		for i, machine := range machines {
			// Of 729 machines with three states and two buttons not every two are compared.
			for j := i % max(1, len(machines)/100); j < len(machines); j += max(1, len(machines)/100) {
				want := isSameByAllNames(machine, machines[j], orders)
				if got := isSame(t, machine, machines[j]); got != want {
					t.Fatalf("Same(%v, %v) = %v", machine, machines[j], got)
				}
			}
		}
	}
}

// P10.3: machines with other names are the same ones; with one change they are compared by all names.
func TestSameWithOtherNames(t *testing.T) {
	r := rand.New(rand.NewPCG(10, 5))
	for _, machine := range someMachines(t) {
		n, k := len(machine[0]), len(machine)
		other := renamed(machine, r.Perm(n))
		if !isSame(t, machine, other) || !isSame(t, other, machine) || !isSame(t, machine, machine) {
			t.Fatalf("Same(%v, %v) = false", machine, other)
		}
		if n > 7 {
			continue
		}
		other[r.IntN(k)][r.IntN(n)] = r.IntN(n)
		want := isSameByAllNames(machine, other, permutations(n))
		if isSame(t, machine, other) != want || isSame(t, other, machine) != want {
			t.Fatalf("Same(%v, %v) = %v", machine, other, !want)
		}
	}
}

// P10.3: machines with another number of states or of buttons are others, also if they agree in the rest.
func TestSameOfOtherSizes(t *testing.T) {
	machines := someMachines(t)
	for i, machine := range machines {
		other := machines[(i*37+11)%len(machines)]
		if (len(machine) != len(other) || len(machine[0]) != len(other[0])) && isSame(t, machine, other) {
			t.Fatalf("Same(%v, %v) = true", machine, other)
		}
		if len(machine) < api.MaxButtons && isSame(t, machine, append(copied(machine), machine[0])) {
			t.Fatalf("Same(%v) with one more button", machine)
		}
		if n := len(machine[0]); n < api.MaxStates {
			longer := copied(machine)
			for button := range longer {
				longer[button] = append(longer[button], n)
			}
			if isSame(t, machine, longer) || isSame(t, longer, machine) {
				t.Fatalf("Same(%v) with one more state", machine)
			}
		}
	}
}

// P10.3: machines with many equal states, most of which fit in many ways.
func TestSameWithManyEqualStates(t *testing.T) {
	for _, x := range []struct {
		list, other []int
		want        bool
	}{
		{[]int{0, 0, 0, 0, 0, 0, 0, 0, 0}, []int{8, 8, 8, 8, 8, 8, 8, 8, 8}, true},
		{[]int{8, 8, 8, 8, 8, 8, 8, 8, 8}, []int{0, 0, 0, 0, 0, 0, 0, 0, 1}, false},
		{[]int{8, 8, 8, 8, 8, 8, 8, 7, 8}, []int{0, 0, 0, 0, 0, 0, 0, 0, 1}, false},
		{[]int{0, 1, 2, 3, 4, 5, 6, 7, 8}, []int{0, 1, 2, 3, 4, 5, 6, 8, 7}, false},
		{[]int{1, 0, 3, 2, 5, 4, 7, 6, 8}, []int{1, 0, 3, 2, 5, 4, 6, 7, 8}, false},
		{[]int{1, 0, 3, 2, 5, 4, 7, 6, 8}, []int{8, 2, 1, 4, 3, 6, 5, 7, 0}, true},
		{[]int{0, 0, 0, 0, 0, 1, 1, 1, 1}, []int{0, 0, 0, 0, 0, 1, 1, 1, 2}, false},
		{[]int{8, 8, 8, 8, 7, 7, 7, 8, 8}, []int{8, 8, 8, 7, 7, 7, 7, 8, 8}, false},
		{[]int{8, 8, 8, 8, 7, 7, 7, 8, 8}, []int{0, 0, 1, 0, 1, 0, 1, 0, 0}, true},
	} {
		one, other := [][]int{x.list, x.list, x.list}, [][]int{x.other, x.other, x.other}
		if isSame(t, one, other) != x.want || isSame(t, other, one) != x.want {
			t.Errorf("Same(%v, %v) = %v", x.list, x.other, !x.want)
		}
	}
}
