// Package sets: sets of numbers from 0 on, as the bits of one number.
package sets

import (
	"iter"
	"math/bits"
)

// Bits is what a set is kept in: 8 bits for values and names, 64 for the states of a machine.
type Bits interface {
	~uint8 | ~uint64
}

// Has tells whether n is in the set.
func Has[S Bits](set S, n int) bool {
	return set&one[S](n) != 0
}

// With is the set and n.
func With[S Bits](set S, n int) S {
	return set | one[S](n)
}

// Without is the set, but not n.
func Without[S Bits](set S, n int) S {
	return set &^ one[S](n)
}

// Below is the set of all numbers below n.
func Below[S Bits](n int) S {
	if n <= 0 {
		return 0
	}
	return one[S](n) - 1
}

// Members goes over the set, rising.
func Members[S Bits](set S) iter.Seq[int] {
	return func(yield func(int) bool) {
		for rest := set; rest != 0; rest &= rest - 1 {
			if !yield(bits.TrailingZeros64(uint64(rest))) {
				return
			}
		}
	}
}

// one is the set of n alone; a number that has no bit is in no set, and a shift by less than 0 would panic.
func one[S Bits](n int) S {
	if n < 0 {
		return 0
	}
	return S(1) << n
}
