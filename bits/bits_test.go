package bits_test

import (
	"math"
	"slices"
	"testing"

	"damask/api"
	"damask/bits"
)

const allOnes = math.MaxUint64

// lengths are those of no bits, of one bit, around the ends of words, and up to the limit.
var lengths = []int{0, 1, 2, 3, 5, 62, 63, 64, 65, 66, 127, 128, 129, 191, 192, 193, 1000, 4032, 4095, api.MaxBits}

// fill returns the list of n bits in which bit i is f(i).
func fill(n int, f func(i int) bool) []bool {
	l := make([]bool, n)
	for i := range l {
		l[i] = f(i)
	}
	return l
}

// shapes returns lists of n bits: all 0, all 1, a single 1 and a single 0 at each end, alternating bits, long runs
// that cross the ends of words, and fixed mixed bits that are mostly 0, half and half, and mostly 1.
func shapes(n int) [][]bool {
	l := [][]bool{
		fill(n, func(i int) bool { return false }),
		fill(n, func(i int) bool { return true }),
		fill(n, func(i int) bool { return i == 0 }),
		fill(n, func(i int) bool { return i == n-1 }),
		fill(n, func(i int) bool { return i != 0 }),
		fill(n, func(i int) bool { return i != n-1 }),
		fill(n, func(i int) bool { return i%2 == 0 }),
		fill(n, func(i int) bool { return i%2 == 1 }),
		fill(n, func(i int) bool { return i/60%2 == 0 }),
		fill(n, func(i int) bool { return i/70%2 == 1 }),
	}
	mixed := uint64(n) + 1
	for _, sixteenths := range []uint64{1, 8, 15} {
		l = append(l, fill(n, func(i int) bool {
			mixed = mixed*6364136223846793005 + 1442695040888963407
			return mixed>>60 < sixteenths
		}))
	}
	return l
}

// numbers returns the numbers of the bits of l that are equal to one, in increasing order.
func numbers(l []bool, one bool) []int {
	var found []int
	for i, bit := range l {
		if bit == one {
			found = append(found, i)
		}
	}
	return found
}

// made returns the vector of l, and ends the test if there is none.
func made(t *testing.T, l []bool) api.Bits {
	t.Helper()
	b, err := bits.Make(l)
	if err != api.OK {
		t.Fatalf("Make of %d bits: error %d", len(l), err)
	}
	return b
}

// eachVector calls f with lists of all lengths and shapes and with their vectors.
func eachVector(t *testing.T, f func(l []bool, b api.Bits)) {
	t.Helper()
	for _, n := range lengths {
		for _, l := range shapes(n) {
			f(l, made(t, l))
		}
	}
}

func checkMake(t *testing.T, l []bool, want ...uint64) {
	t.Helper()
	b, err := bits.Make(l)
	if err != api.OK || b.Len != len(l) || !slices.Equal(b.Words, want) {
		t.Errorf("Make of %d bits = {%d %#x}, %d; want the words %#x", len(l), b.Len, b.Words, err, want)
	}
}

func checkMay(t *testing.T, n int, words []uint64, want bool) {
	t.Helper()
	if got := bits.May(api.Bits{Len: n, Words: words}); got != want {
		t.Errorf("May of {%d %#x} = %t; want %t", n, words, got, want)
	}
}

func checkAt(t *testing.T, b api.Bits, i int, want bool, wantErr api.Errno) {
	t.Helper()
	if got, err := bits.At(b, i); got != want || err != wantErr {
		t.Errorf("At({%d %#x}, %d) = %t, %d; want %t, %d", b.Len, b.Words, i, got, err, want, wantErr)
	}
}

func checkRank(t *testing.T, b api.Bits, i, want int, wantErr api.Errno) {
	t.Helper()
	if got, err := bits.Rank(b, i); got != want || err != wantErr {
		t.Errorf("Rank({%d %#x}, %d) = %d, %d; want %d, %d", b.Len, b.Words, i, got, err, want, wantErr)
	}
}

func checkSelect(t *testing.T, b api.Bits, one bool, k, want int, wantErr api.Errno) {
	t.Helper()
	if got, err := bits.Select(b, one, k); got != want || err != wantErr {
		t.Errorf("Select({%d %#x}, %t, %d) = %d, %d; want %d, %d", b.Len, b.Words, one, k, got, err, want, wantErr)
	}
}

func TestMake(t *testing.T) {
	ones := func(n int) []bool { return fill(n, func(int) bool { return true }) }
	checkMake(t, []bool{true, false, true}, 5)
	checkMake(t, nil)
	checkMake(t, []bool{})
	checkMake(t, []bool{false}, 0)
	checkMake(t, []bool{true}, 1)
	checkMake(t, ones(63), allOnes>>1)
	checkMake(t, ones(64), allOnes)
	checkMake(t, ones(65), allOnes, 1)
	checkMake(t, ones(127), allOnes, allOnes>>1)
	checkMake(t, ones(128), allOnes, allOnes)
	checkMake(t, ones(129), allOnes, allOnes, 1)
	checkMake(t, make([]bool, 65), 0, 0)
	checkMake(t, make([]bool, 128), 0, 0)
	checkMake(t, fill(129, func(i int) bool { return i%64 == 63 || i == 128 }), 1<<63, 1<<63, 1)
	checkMake(t, ones(api.MaxBits), slices.Repeat([]uint64{allOnes}, 64)...)
}

func TestMakeSetsEachBit(t *testing.T) {
	eachVector(t, func(l []bool, b api.Bits) {
		want := make([]uint64, (len(l)+63)/64)
		for _, i := range numbers(l, true) {
			want[i/64] |= 1 << (i % 64)
		}
		checkMake(t, l, want...)
	})
}

func TestMakeTooLong(t *testing.T) {
	for _, n := range []int{api.MaxBits + 1, api.MaxBits + 64, 100000} {
		for _, l := range [][]bool{make([]bool, n), fill(n, func(int) bool { return true })} {
			b, err := bits.Make(l)
			if b.Len != 0 || len(b.Words) != 0 || err != api.ErrSize {
				t.Errorf("Make of %d bits = {%d %#x}, %d; want no bits, %d", n, b.Len, b.Words, err, api.ErrSize)
			}
		}
	}
}

func TestMakeKeepsNothing(t *testing.T) {
	whole := fill(200, func(i int) bool { return i%3 == 0 })
	before := slices.Clone(whole)
	l := whole[:130]
	first, second := made(t, l), made(t, l)
	want := slices.Clone(first.Words)
	if !slices.Equal(whole, before) {
		t.Errorf("Make changed its argument: %v", whole)
	}
	for i := range whole {
		whole[i] = true
	}
	if !slices.Equal(first.Words, want) {
		t.Errorf("the vector changed with the list: %#x; want %#x", first.Words, want)
	}
	spare := first.Words[:cap(first.Words)]
	for j := range spare {
		spare[j] = allOnes
	}
	if !slices.Equal(second.Words, want) {
		t.Errorf("the vector changed with another one: %#x; want %#x", second.Words, want)
	}
}

func TestMayOfMade(t *testing.T) {
	eachVector(t, func(l []bool, b api.Bits) {
		checkMay(t, b.Len, b.Words, true)
	})
}

func TestMay(t *testing.T) {
	checkMay(t, 0, nil, true)
	checkMay(t, 0, []uint64{}, true)
	checkMay(t, 3, []uint64{5}, true)
	checkMay(t, 1, []uint64{0}, true)
	checkMay(t, 1, []uint64{1}, true)
	checkMay(t, 63, []uint64{allOnes >> 1}, true)
	checkMay(t, 64, []uint64{allOnes}, true)
	checkMay(t, 65, []uint64{allOnes, 1}, true)
	checkMay(t, 128, []uint64{allOnes, allOnes}, true)
	checkMay(t, 129, []uint64{allOnes, allOnes, 1}, true)
	checkMay(t, api.MaxBits, slices.Repeat([]uint64{allOnes}, 64), true)
}

// invalid returns vectors that break one rule each, and some that break several.
func invalid() []api.Bits {
	full := slices.Repeat([]uint64{allOnes}, 70)
	zeros := make([]uint64, 70)
	l := []api.Bits{
		{Len: 1, Words: []uint64{2}}, {Len: 1, Words: []uint64{3}}, {Len: 1, Words: []uint64{1 << 63}},
		{Len: 63, Words: []uint64{1 << 63}}, {Len: 65, Words: []uint64{0, 2}}, {Len: 127, Words: []uint64{0, 1 << 63}},
		{Len: 129, Words: []uint64{0, 0, 2}}, {Len: 4095, Words: full[:64]},
		{Len: 0, Words: []uint64{0}}, {Len: 0, Words: []uint64{1}},
		{Len: api.MaxBits + 1, Words: zeros[:65]}, {Len: api.MaxBits + 1, Words: zeros[:64]},
		{Len: api.MaxBits + 64, Words: full[:65]},
		{Len: math.MaxInt, Words: nil}, {Len: math.MaxInt, Words: zeros}, {Len: math.MaxInt - 63, Words: nil},
	}
	for _, n := range []int{-1, -2, -63, -64, -65, -1 << 32, math.MinInt, math.MinInt + 1} {
		for _, words := range [][]uint64{nil, {}, {0}, {1}, zeros} {
			l = append(l, api.Bits{Len: n, Words: words})
		}
	}
	for _, n := range []int{1, 63, 64, 65, 127, 128, 129, api.MaxBits} {
		count := (n + 63) / 64
		l = append(l, api.Bits{Len: n}, api.Bits{Len: n, Words: []uint64{}})
		l = append(l, api.Bits{Len: n, Words: zeros[:count-1]}, api.Bits{Len: n, Words: zeros[:count+1]})
	}
	return l
}

func TestInvalidVectors(t *testing.T) {
	// The numbers are invalid as well, but the vector is checked first.
	for _, b := range invalid() {
		checkMay(t, b.Len, b.Words, false)
		for _, i := range []int{0, 1, -1, b.Len, 64, api.MaxBits, math.MinInt, math.MaxInt} {
			checkAt(t, b, i, false, api.ErrForm)
			checkRank(t, b, i, 0, api.ErrForm)
			checkSelect(t, b, true, i, 0, api.ErrForm)
			checkSelect(t, b, false, i, 0, api.ErrForm)
		}
	}
}

func TestMayChecksEachSpareBit(t *testing.T) {
	for n := 1; n <= 192; n++ {
		words := make([]uint64, (n+63)/64)
		for i := range 64 * len(words) {
			words[i/64] = 1 << (i % 64)
			checkMay(t, n, words, i < n)
			words[i/64] = 0
		}
	}
}

func TestAt(t *testing.T) {
	b := made(t, []bool{true, false, true})
	checkAt(t, b, 0, true, api.OK)
	checkAt(t, b, 1, false, api.OK)
	checkAt(t, b, 2, true, api.OK)
	checkAt(t, b, 3, false, api.ErrRange)
	checkAt(t, api.Bits{}, 0, false, api.ErrRange)
	checkAt(t, api.Bits{}, -1, false, api.ErrRange)
}

func TestAtOfEachBit(t *testing.T) {
	eachVector(t, func(l []bool, b api.Bits) {
		for i, want := range l {
			checkAt(t, b, i, want, api.OK)
		}
		for _, i := range []int{-1, -64, len(l), len(l) + 1, len(l) + 64, math.MinInt, math.MaxInt} {
			checkAt(t, b, i, false, api.ErrRange)
		}
	})
}

func TestRank(t *testing.T) {
	b := made(t, []bool{true, false, true})
	checkRank(t, b, 0, 0, api.OK)
	checkRank(t, b, 1, 1, api.OK)
	checkRank(t, b, 2, 1, api.OK)
	checkRank(t, b, 3, 2, api.OK)
	checkRank(t, b, 4, 0, api.ErrRange)
	checkRank(t, api.Bits{}, 0, 0, api.OK)
	checkRank(t, api.Bits{}, 1, 0, api.ErrRange)
	checkRank(t, api.Bits{}, -1, 0, api.ErrRange)
}

func TestRankCountsOnesBefore(t *testing.T) {
	eachVector(t, func(l []bool, b api.Bits) {
		before := 0
		for i, bit := range l {
			checkRank(t, b, i, before, api.OK)
			if bit {
				before++
			}
		}
		checkRank(t, b, len(l), before, api.OK)
		for _, i := range []int{-1, -64, len(l) + 1, len(l) + 64, math.MinInt, math.MaxInt} {
			checkRank(t, b, i, 0, api.ErrRange)
		}
	})
}

func TestSelect(t *testing.T) {
	b := made(t, []bool{true, false, true})
	checkSelect(t, b, true, 0, 0, api.OK)
	checkSelect(t, b, true, 1, 2, api.OK)
	checkSelect(t, b, true, 2, 0, api.ErrNone)
	checkSelect(t, b, false, 0, 1, api.OK)
	checkSelect(t, b, false, 1, 0, api.ErrNone)
	for _, one := range []bool{true, false} {
		checkSelect(t, api.Bits{}, one, 0, 0, api.ErrNone)
		checkSelect(t, api.Bits{}, one, math.MaxInt, 0, api.ErrNone)
		checkSelect(t, api.Bits{}, one, -1, 0, api.ErrRange)
		checkSelect(t, api.Bits{}, one, math.MinInt, 0, api.ErrRange)
	}
}

func TestSelectFindsEachBit(t *testing.T) {
	eachVector(t, func(l []bool, b api.Bits) {
		for _, one := range []bool{true, false} {
			found := numbers(l, one)
			for k, want := range found {
				checkSelect(t, b, one, k, want, api.OK)
			}
			for _, k := range []int{0, 1, 63, 64, api.MaxBits, math.MaxInt - len(found)} {
				checkSelect(t, b, one, len(found)+k, 0, api.ErrNone)
			}
			for _, k := range []int{-1, -64, math.MinInt} {
				checkSelect(t, b, one, k, 0, api.ErrRange)
			}
		}
	})
}

func TestSelectAcrossWords(t *testing.T) {
	// The words 1<<63, 1 and 1<<63, and the zero bits that these words leave.
	b := made(t, fill(192, func(i int) bool { return i == 63 || i == 64 || i == 191 }))
	checkSelect(t, b, true, 0, 63, api.OK)
	checkSelect(t, b, true, 1, 64, api.OK)
	checkSelect(t, b, true, 2, 191, api.OK)
	checkSelect(t, b, true, 3, 0, api.ErrNone)
	checkSelect(t, b, false, 62, 62, api.OK)
	checkSelect(t, b, false, 63, 65, api.OK)
	checkSelect(t, b, false, 188, 190, api.OK)
	checkSelect(t, b, false, 189, 0, api.ErrNone)
}

func TestVectorsAreNotChanged(t *testing.T) {
	// The spare capacity has one bits, which neither count as bits of the vector nor change.
	store := []uint64{5, 1, allOnes, allOnes}
	before := slices.Clone(store)
	b := api.Bits{Len: 66, Words: store[:2]}
	checkMay(t, b.Len, b.Words, true)
	checkAt(t, b, 64, true, api.OK)
	checkAt(t, b, 66, false, api.ErrRange)
	checkRank(t, b, 66, 3, api.OK)
	checkSelect(t, b, true, 2, 64, api.OK)
	checkSelect(t, b, true, 3, 0, api.ErrNone)
	checkSelect(t, b, false, 62, 65, api.OK)
	checkSelect(t, b, false, 63, 0, api.ErrNone)
	if !slices.Equal(store, before) {
		t.Errorf("the words changed: %#x; want %#x", store, before)
	}
}
