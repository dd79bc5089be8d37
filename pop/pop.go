// Package pop counts and locates the one bits of a 64-bit word: see doc/01-pop.md.
package pop

import (
	"math/bits"

	"damask/api"
)

const wordBits = 64

// Ones returns the number of one bits of w.
func Ones(w uint64) int {
	return bits.OnesCount64(w)
}

// Rank returns the number of one bits of w with a number less than i.
func Rank(w uint64, i int) (int, api.Errno) {
	if i < 0 || i > wordBits {
		return 0, api.ErrRange
	}
	// A shift by 64 yields 0, so that the mask for i = 64 wraps around to all ones.
	below := uint64(1)<<uint(i) - 1
	return Ones(w & below), api.OK
}

// Select returns the number of the one bit of w that has exactly k one bits below it.
func Select(w uint64, k int) (int, api.Errno) {
	if k < 0 {
		return 0, api.ErrRange
	}
	if Ones(w) <= k {
		return 0, api.ErrNone
	}
	for range k {
		w = withoutLowest(w)
	}
	return bits.TrailingZeros64(w), api.OK
}

// Turn returns w with its bits reversed: bit i becomes bit 63 - i.
func Turn(w uint64) uint64 {
	return bits.Reverse64(w)
}

// withoutLowest clears the lowest one bit of w: w - 1 flips that bit and the zeros below it, and nothing above.
func withoutLowest(w uint64) uint64 {
	return w & (w - 1)
}
