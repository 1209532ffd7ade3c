package sums

import "lampbox/api"

// isPrime reports whether a number is a prime within the limit.
func isPrime(p int) bool {
	if p < 2 || p > api.MaxPrime {
		return false
	}
	for d := 2; d < p; d++ {
		if p%d == 0 {
			return false
		}
	}
	return true
}

// isSet reports whether a list is a non-empty one of different numbers from 0 to p - 1.
func isSet(p int, list []int) bool {
	var has [api.MaxPrime]bool
	for _, number := range list {
		if number < 0 || number >= p || has[number] {
			return false
		}
		has[number] = true
	}
	return len(list) > 0
}

// setSums returns the remainders modulo p of all sums of a number of each set, in ascending order.
func setSums(p int, a, b []int) []int {
	var has [api.MaxPrime]bool
	for _, x := range a {
		for _, y := range b {
			has[(x+y)%p] = true
		}
	}
	var all []int
	for number, ok := range has {
		if ok {
			all = append(all, number)
		}
	}
	return all
}
