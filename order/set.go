package order

import (
	"math/bits"
)

// things of a set, the least first.
func things(s int) func(yield func(int) bool) {
	return func(yield func(int) bool) {
		// Unsigned, so that going over it ends below 0, too.
		for rest := uint(s); rest != 0; rest &= rest - 1 {
			if !yield(bits.TrailingZeros(rest)) {
				return
			}
		}
	}
}

// has tells whether a thing is in a set.
func has(s, i int) bool { return s>>i&1 == 1 }

// isSet tells whether a number is a set of n things.
func isSet(s, n int) bool { return s >= 0 && s < 1<<n }

// isThing tells whether a number is one of n things.
func isThing(i, n int) bool { return i >= 0 && i < n }

// reached tells of each thing all that its row leads to, over others, too.
func reached(r []int) []int {
	all := make([]int, len(r))
	copy(all, r)
	// Each round leads at least one step further, and no way that
	// comes to a thing for the first time has more steps than there are things.
	for range r {
		for i := range all {
			for j := range things(all[i]) {
				all[i] |= all[j]
			}
		}
	}
	return all
}
