package wave

import (
	"slices"

	"damask/api"
	"damask/bits"
)

// part is a range of the numbers of a level, in the order that they have there: from from to to - 1.
type part struct {
	from, to int
}

// size returns how many numbers p has.
func (p part) size() int {
	return p.to - p.from
}

// makeLevel returns the bit vector of the digits of l at the given place, and the numbers of l in the order of the next
// level.
func makeLevel(l []int, place int) (api.Bits, []int) {
	ones := make([]bool, len(l))
	var halves [2][]int
	for i, x := range l {
		d := digit(x, place)
		ones[i] = d == 1
		halves[d] = append(halves[d], x)
	}
	// The call does not fail: a list has fewer numbers than a vector may have bits.
	level, _ := bits.Make(ones)
	return level, slices.Concat(halves[0], halves[1])
}

// split returns where the next level has the numbers of p whose digit is 0, and where it has those whose digit is 1.
func split(level api.Bits, p part) [2]part {
	zeros := level.Len - onesBefore(level, level.Len)
	from, to := onesBefore(level, p.from), onesBefore(level, p.to)
	return [2]part{
		{p.from - from, p.to - to},
		{zeros + from, zeros + to},
	}
}

// onesBefore returns the number of ones of a valid level before bit i, which is at most its length.
func onesBefore(level api.Bits, i int) int {
	ones, _ := bits.Rank(level, i)
	return ones
}

// compare returns how many of the numbers of p, a part of the first level of w, are less than x and how many are equal
// to x.
func compare(w api.Wave, p part, x int) (less, equal int) {
	if x < 0 {
		return 0, 0
	}
	if !fits(x, len(w.Levels)) {
		return p.size(), 0
	}
	// p is left with the numbers whose digits up to this level are those of x.
	for i, level := range w.Levels {
		halves := split(level, p)
		d := digit(x, len(w.Levels)-1-i)
		if d == 1 {
			less += halves[0].size()
		}
		p = halves[d]
	}
	return less, p.size()
}

// kth returns the element with index k of the sorted list of the numbers of p, a part of the first level of w with more
// than k numbers.
func kth(w api.Wave, p part, k int) int {
	x := 0
	for _, level := range w.Levels {
		halves := split(level, p)
		d := 0
		if zeros := halves[0].size(); k >= zeros {
			d = 1
			k -= zeros
		}
		x = 2*x + d
		p = halves[d]
	}
	return x
}

// digit returns the binary digit of x, which is not negative, at the given place; the last digit has place 0.
func digit(x, place int) int {
	return x >> place & 1
}

// fits reports whether x is not negative and has at most levels binary digits.
func fits(x, levels int) bool {
	return x >= 0 && x < 1<<levels
}
