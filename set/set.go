// Package set has sets of things that are numbers: bit i says whether thing i is in it.
package set

import (
	"math/bits"
)

// Things of a set, the least first.
func Things(s int) func(yield func(int) bool) {
	return func(yield func(int) bool) {
		// Unsigned, so that going over it ends below 0, too.
		for rest := uint(s); rest != 0; rest &= rest - 1 {
			if !yield(bits.TrailingZeros(rest)) {
				return
			}
		}
	}
}

// Least thing of a set that has one.
func Least(s int) int { return bits.TrailingZeros(uint(s)) }

// Size tells how many things are in a set.
func Size(s int) int { return bits.OnesCount(uint(s)) }

// Has tells whether a thing is in a set.
func Has(s, i int) bool { return s>>i&1 == 1 }

// Is tells whether a number is a set of n things.
func Is(s, n int) bool { return s >= 0 && s>>n == 0 }

// IsThing tells whether a number is one of n things.
func IsThing(i, n int) bool { return i >= 0 && i < n }

// Reached tells of each of some things, of each of which there is a set of them, all to which its set leads, over others, too.
func Reached(r []int) []int {
	all := make([]int, len(r))
	copy(all, r)
	// Each round leads at least one step further, and no way that
	// comes to a thing for the first time has more steps than there are things.
	for range r {
		for i := range all {
			for j := range Things(all[i]) {
				all[i] |= all[j]
			}
		}
	}
	return all
}
