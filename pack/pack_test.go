package pack_test

import (
	"math"
	"slices"
	"testing"

	"damask/api"
	"damask/pack"
)

const (
	allOnes  = math.MaxUint64
	from33   = allOnes - 1<<33 + 1 // the bits from 33 on
	maxWidth = 62
)

// extremes are numbers that are no index, width or length of any array.
var extremes = []int{math.MinInt, math.MinInt + 1, -1 << 62, -1 << 32, -64, -1, 1 << 32, 1 << 62, math.MaxInt - 63, math.MaxInt}

// largest returns the largest number of width bits.
func largest(width int) int {
	return 1<<width - 1
}

// fill returns the list of n numbers in which number i is f(i).
func fill(n int, f func(i int) int) []int {
	l := make([]int, n)
	for i := range l {
		l[i] = f(i)
	}
	return l
}

// shapes returns lists of n numbers of width bits: all 0, the largest one everywhere, at one end or at every other
// place, only the highest or the lowest bit, and fixed mixed numbers.
func shapes(width, n int) [][]int {
	full, top := largest(width), 1<<width>>1
	one := min(1, full)
	mixed := uint64(100*n + width)
	return [][]int{
		make([]int, n),
		fill(n, func(i int) int { return full }),
		fill(n, func(i int) int { return full * ((i + 1) / n) }),
		fill(n, func(i int) int { return full * (1 - min(i, 1)) }),
		fill(n, func(i int) int { return full * (i % 2) }),
		fill(n, func(i int) int { return full * ((i + 1) % 2) }),
		fill(n, func(i int) int { return top & full }),
		fill(n, func(i int) int { return one }),
		fill(n, func(i int) int {
			mixed = mixed*6364136223846793005 + 1442695040888963407
			return int(mixed>>1) & full
		}),
	}
}

// lengths returns the lengths of no numbers, of a few, of those whose bits end near the ends of words, and the
// largest ones.
func lengths(width int) []int {
	l := []int{0, 1, 2, 3, 64, 65, api.MaxList - 1, api.MaxList}
	for _, end := range []int{64, 128, 192, 640} {
		if width > 0 {
			l = append(l, end/width-1, end/width, end/width+1)
		}
	}
	l = slices.DeleteFunc(l, func(n int) bool { return n < 0 || n > api.MaxList })
	slices.Sort(l)
	return slices.Compact(l)
}

// packed returns the words of the numbers l, set bit by bit.
func packed(width int, l []int) []uint64 {
	words := make([]uint64, (width*len(l)+63)/64)
	for i, v := range l {
		for k := range width {
			if v>>k&1 == 1 {
				words[(i*width+k)/64] |= 1 << ((i*width + k) % 64)
			}
		}
	}
	return words
}

// made returns the array of l, and ends the test if there is none.
func made(t *testing.T, width int, l []int) api.Packed {
	t.Helper()
	p, err := pack.Make(width, l)
	if err != api.OK {
		t.Fatalf("Make(%d, %d numbers): error %d", width, len(l), err)
	}
	return p
}

// eachArray calls f with lists of all widths, lengths and shapes, and with their arrays.
func eachArray(t *testing.T, f func(l []int, p api.Packed)) {
	t.Helper()
	for width := range maxWidth + 1 {
		for _, n := range lengths(width) {
			for _, l := range shapes(width, n) {
				f(l, made(t, width, l))
			}
		}
	}
}

func checkMake(t *testing.T, width int, l []int, want ...uint64) {
	t.Helper()
	p, err := pack.Make(width, l)
	if err != api.OK || p.Len != len(l) || p.Width != width || !slices.Equal(p.Words, want) {
		t.Errorf("Make(%d, %v) = {%d %d %#x}, %d; want the words %#x", width, l, p.Len, p.Width, p.Words, err, want)
	}
}

func checkNotMade(t *testing.T, width int, l []int, want api.Errno) {
	t.Helper()
	p, err := pack.Make(width, l)
	if err != want || p.Len != 0 || p.Width != 0 || len(p.Words) != 0 {
		t.Errorf("Make(%d, %v) = {%d %d %#x}, %d; want no numbers, %d", width, l, p.Len, p.Width, p.Words, err, want)
	}
}

func checkMay(t *testing.T, p api.Packed, want bool) {
	t.Helper()
	if got := pack.May(p); got != want {
		t.Errorf("May of {%d %d %#x} = %t; want %t", p.Len, p.Width, p.Words, got, want)
	}
}

func checkAt(t *testing.T, p api.Packed, i, want int, wantErr api.Errno) {
	t.Helper()
	if got, err := pack.At(p, i); got != want || err != wantErr {
		t.Errorf("At({%d %d %#x}, %d) = %d, %d; want %d, %d", p.Len, p.Width, p.Words, i, got, err, want, wantErr)
	}
}

func checkWide(t *testing.T, l []int, want int, wantErr api.Errno) {
	t.Helper()
	if got, err := pack.Wide(l); got != want || err != wantErr {
		t.Errorf("Wide(%v) = %d, %d; want %d, %d", l, got, err, want, wantErr)
	}
}

func TestMake(t *testing.T) {
	checkMake(t, 3, []int{1, 2}, 17)
	checkMake(t, 3, []int{5, 1, 7}, 461)
	checkMake(t, 0, nil)
	checkMake(t, 0, []int{})
	checkMake(t, 62, nil)
	checkMake(t, 62, []int{})
	checkMake(t, 0, []int{0})
	checkMake(t, 0, make([]int, api.MaxList))
	checkMake(t, 1, []int{0}, 0)
	checkMake(t, 1, []int{1, 0, 1, 1}, 13)
	checkMake(t, 62, []int{0}, 0)
	checkMake(t, 62, []int{largest(62)}, allOnes>>2)
	checkMake(t, 32, make([]int, 3), 0, 0)
}

func TestMakeAcrossWords(t *testing.T) {
	checkMake(t, 40, []int{1, 1 << 39}, 1, 32768)
	checkMake(t, 33, []int{0, largest(33)}, from33, 3)
	checkMake(t, 62, []int{0, largest(62)}, 3<<62, allOnes>>4)
	checkMake(t, 62, []int{0, 1, 0}, 1<<62, 0, 0)
	checkMake(t, 61, []int{0, 5, 1 << 60}, 5<<61, 0, 1<<54)
}

func TestMakeAtWordEnds(t *testing.T) {
	ones := func(n, width int) []int { return fill(n, func(int) int { return largest(width) }) }
	checkMake(t, 1, ones(63, 1), allOnes>>1)
	checkMake(t, 1, ones(64, 1), allOnes)
	checkMake(t, 1, ones(65, 1), allOnes, 1)
	checkMake(t, 7, ones(9, 7), allOnes>>1)
	checkMake(t, 13, ones(5, 13), allOnes, 1)
	checkMake(t, 31, ones(2, 31), allOnes>>2)
	checkMake(t, 31, ones(3, 31), allOnes, allOnes>>35)
	checkMake(t, 32, ones(1, 32), allOnes>>32)
	checkMake(t, 32, ones(2, 32), allOnes)
	checkMake(t, 32, ones(3, 32), allOnes, allOnes>>32)
	checkMake(t, 33, ones(2, 33), allOnes, 3)
	checkMake(t, 61, ones(64, 61), slices.Repeat([]uint64{allOnes}, 61)...)
	checkMake(t, 62, ones(32, 62), slices.Repeat([]uint64{allOnes}, 31)...)
}

func TestMakeSetsEachBit(t *testing.T) {
	eachArray(t, func(l []int, p api.Packed) {
		checkMake(t, p.Width, l, packed(p.Width, l)...)
	})
}

func TestMakeTooLong(t *testing.T) {
	// The widths and the numbers are invalid as well, but the length is checked first.
	for _, n := range []int{api.MaxList + 1, api.MaxList + 64, 100000} {
		for _, width := range append([]int{0, 1, 31, 62, 63}, extremes...) {
			for _, v := range []int{0, 1, -1, math.MinInt, math.MaxInt} {
				p, err := pack.Make(width, fill(n, func(int) int { return v }))
				if err != api.ErrSize || p.Len != 0 || p.Width != 0 || len(p.Words) != 0 {
					t.Errorf("Make(%d, %d times %d): error %d, Len %d; want %d, 0", width, n, v, err, p.Len, api.ErrSize)
				}
			}
		}
	}
}

func TestMakeWrongWidth(t *testing.T) {
	for _, width := range append([]int{63, 64, 65, 128}, extremes...) {
		for _, l := range [][]int{nil, {}, {0}, {1, 2}, {-1}, make([]int, api.MaxList)} {
			checkNotMade(t, width, l, api.ErrRange)
		}
	}
}

func TestMakeWrongNumbers(t *testing.T) {
	checkNotMade(t, 2, []int{4}, api.ErrRange)
	for width := range maxWidth + 1 {
		for _, v := range []int{-1, -2, -1 << width, -1 << 62, math.MinInt, math.MinInt + 1, math.MaxInt, 1 << width, 1 << 62} {
			checkNotMade(t, width, []int{v}, api.ErrRange)
			checkNotMade(t, width, []int{0, v}, api.ErrRange)
			checkNotMade(t, width, []int{v, 0}, api.ErrRange)
			last := make([]int, api.MaxList)
			last[api.MaxList-1] = v
			checkNotMade(t, width, last, api.ErrRange)
		}
	}
}

func TestMakeKeepsNothing(t *testing.T) {
	whole := fill(40, func(i int) int { return i })
	before := slices.Clone(whole)
	l := whole[:30]
	first, second := made(t, 33, l), made(t, 33, l)
	want := slices.Clone(first.Words)
	if !slices.Equal(whole, before) {
		t.Errorf("Make changed its argument: %v", whole)
	}
	for i := range whole {
		whole[i] = -1
	}
	if !slices.Equal(first.Words, want) {
		t.Errorf("the array changed with the list: %#x; want %#x", first.Words, want)
	}
	spare := first.Words[:cap(first.Words)]
	for j := range spare {
		spare[j] = allOnes
	}
	if !slices.Equal(second.Words, want) {
		t.Errorf("the array changed with another one: %#x; want %#x", second.Words, want)
	}
}

func TestMayOfMade(t *testing.T) {
	eachArray(t, func(l []int, p api.Packed) {
		checkMay(t, p, true)
	})
}

func TestMay(t *testing.T) {
	checkMay(t, api.Packed{}, true)
	checkMay(t, api.Packed{Words: []uint64{}}, true)
	checkMay(t, api.Packed{Width: 62}, true)
	checkMay(t, api.Packed{Len: api.MaxList}, true)
	checkMay(t, api.Packed{Len: 2, Width: 3, Words: []uint64{17}}, true)
	checkMay(t, api.Packed{Len: 1, Width: 1, Words: []uint64{1}}, true)
	checkMay(t, api.Packed{Len: 64, Width: 1, Words: []uint64{allOnes}}, true)
	checkMay(t, api.Packed{Len: 2, Width: 32, Words: []uint64{allOnes}}, true)
	checkMay(t, api.Packed{Len: 65, Width: 1, Words: []uint64{allOnes, 1}}, true)
	checkMay(t, api.Packed{Len: 2, Width: 33, Words: []uint64{allOnes, 3}}, true)
	// 300 numbers of 62 bits end with bit 40 of the last of 291 words.
	most := slices.Repeat([]uint64{allOnes}, 291)
	most[290] >>= 24
	checkMay(t, api.Packed{Len: api.MaxList, Width: 62, Words: most}, true)
}

// invalid returns arrays that break one rule each, and some that break several.
func invalid() []api.Packed {
	zeros := make([]uint64, 320)
	l := []api.Packed{
		{Len: 1, Width: 1, Words: []uint64{2}}, {Len: 1, Width: 1, Words: []uint64{1 << 63}},
		{Len: 1, Width: 62, Words: []uint64{1 << 62}}, {Len: 63, Width: 1, Words: []uint64{1 << 63}},
		{Len: 2, Width: 33, Words: []uint64{0, 4}}, {Len: 3, Width: 62, Words: []uint64{0, 0, 1 << 58}},
		{Len: api.MaxList + 1, Words: nil}, {Len: api.MaxList + 1, Width: 1, Words: zeros[:5]},
		{Len: api.MaxList + 1, Width: 62, Words: zeros[:292]},
		{Len: 0, Width: 63}, {Len: 1, Width: 63, Words: zeros[:1]}, {Len: 1, Width: 64, Words: zeros[:1]},
		{Len: 64, Width: 63, Words: zeros[:63]}, {Len: 1, Width: 128, Words: zeros[:2]},
		{Len: -1, Width: -1, Words: zeros[:1]}, {Len: -8, Width: -8, Words: zeros[:1]},
		{Len: 1 << 32, Width: 1 << 32}, {Len: math.MinInt, Width: 2}, {Len: math.MinInt, Width: math.MinInt},
		{Len: 0, Width: 0, Words: zeros[:1]}, {Len: 0, Width: 5, Words: zeros[:1]}, {Len: 5, Width: 0, Words: zeros[:1]},
		{Len: 0, Width: 0, Words: []uint64{1}},
	}
	for _, n := range extremes {
		for _, words := range [][]uint64{nil, {}, {0}, {1}, zeros} {
			l = append(l, api.Packed{Len: n, Words: words}, api.Packed{Width: n, Words: words})
			l = append(l, api.Packed{Len: n, Width: 1, Words: words}, api.Packed{Len: 1, Width: n, Words: words})
			l = append(l, api.Packed{Len: n, Width: n, Words: words})
		}
	}
	for _, width := range []int{1, 31, 32, 33, 61, 62} {
		for _, n := range []int{1, 2, 3, 63, 64, 65, api.MaxList} {
			count := (n*width + 63) / 64
			l = append(l, api.Packed{Len: n, Width: width}, api.Packed{Len: n, Width: width, Words: zeros[:count-1]})
			l = append(l, api.Packed{Len: n, Width: width, Words: zeros[:count+1]})
		}
	}
	return l
}

func TestInvalidArrays(t *testing.T) {
	// The indices are invalid as well, but the array is checked first.
	for _, p := range invalid() {
		checkMay(t, p, false)
		for _, i := range []int{0, 1, -1, p.Len, api.MaxList, math.MinInt, math.MaxInt} {
			checkAt(t, p, i, 0, api.ErrForm)
		}
	}
}

func TestMayChecksEachSpareBit(t *testing.T) {
	for width := 1; width <= maxWidth; width++ {
		for n := 1; n <= 70; n++ {
			words := make([]uint64, (n*width+63)/64)
			for i := 64 * (len(words) - 1); i < 64*len(words); i++ {
				words[i/64] = 1 << (i % 64)
				checkMay(t, api.Packed{Len: n, Width: width, Words: words}, i < n*width)
				words[i/64] = 0
			}
		}
	}
}

func TestAt(t *testing.T) {
	p := made(t, 3, []int{1, 2})
	checkAt(t, p, 0, 1, api.OK)
	checkAt(t, p, 1, 2, api.OK)
	checkAt(t, p, 2, 0, api.ErrRange)
	checkAt(t, p, -1, 0, api.ErrRange)
	checkAt(t, api.Packed{}, 0, 0, api.ErrRange)
	checkAt(t, api.Packed{Width: 62}, 0, 0, api.ErrRange)
	checkAt(t, api.Packed{Len: 1}, 0, 0, api.OK)
	checkAt(t, api.Packed{Len: api.MaxList}, api.MaxList-1, 0, api.OK)
	checkAt(t, api.Packed{Len: api.MaxList}, api.MaxList, 0, api.ErrRange)
	checkAt(t, api.Packed{Len: 2, Width: 33, Words: []uint64{from33, 3}}, 1, largest(33), api.OK)
	checkAt(t, api.Packed{Len: 2, Width: 33, Words: []uint64{from33, 3}}, 0, 0, api.OK)
}

func TestAtOfEachNumber(t *testing.T) {
	eachArray(t, func(l []int, p api.Packed) {
		for i, want := range l {
			checkAt(t, p, i, want, api.OK)
		}
		for _, i := range append([]int{len(l), len(l) + 1, len(l) + 64}, extremes...) {
			checkAt(t, p, i, 0, api.ErrRange)
		}
	})
}

func TestWide(t *testing.T) {
	checkWide(t, []int{1, 4}, 3, api.OK)
	checkWide(t, []int{3, 8, 0}, 4, api.OK)
	checkWide(t, nil, 0, api.OK)
	checkWide(t, []int{}, 0, api.OK)
	checkWide(t, []int{0}, 0, api.OK)
	checkWide(t, []int{0, 0, 0}, 0, api.OK)
	checkWide(t, []int{1}, 1, api.OK)
	checkWide(t, []int{4, 3}, 3, api.OK)
	checkWide(t, []int{largest(62), 0}, 62, api.OK)
	checkWide(t, []int{0, 1 << 61}, 62, api.OK)
	// The chapter sets no limit to the length of the list.
	checkWide(t, make([]int, api.MaxList+1), 0, api.OK)
	checkWide(t, fill(1000, func(i int) int { return i }), 10, api.OK)
}

func TestWideOfEachWidth(t *testing.T) {
	for width := 1; width <= maxWidth; width++ {
		for _, v := range []int{1 << (width - 1), largest(width)} {
			for _, l := range [][]int{{v}, {0, v}, {v, 0}, {v, v}, {0, v, 1}} {
				checkWide(t, l, width, api.OK)
				checkMake(t, width, l, packed(width, l)...)
				checkNotMade(t, width-1, l, api.ErrRange)
			}
		}
	}
}

func TestWideWrongNumbers(t *testing.T) {
	for _, v := range []int{-1, -2, -1 << 62, math.MinInt, math.MinInt + 1, 1 << 62, 1<<62 + 1, math.MaxInt} {
		for _, l := range [][]int{{v}, {0, v}, {v, 0}, {5, v, 1}, {1, 1, 1, v}} {
			checkWide(t, l, 0, api.ErrRange)
		}
		long := make([]int, 1000)
		long[999] = v
		checkWide(t, long, 0, api.ErrRange)
	}
}

func TestWideKeepsItsArgument(t *testing.T) {
	whole := []int{1, 4, -1, 1 << 62}
	before := slices.Clone(whole)
	checkWide(t, whole[:2], 3, api.OK)
	checkWide(t, whole, 0, api.ErrRange)
	if !slices.Equal(whole, before) {
		t.Errorf("Wide changed its argument: %v; want %v", whole, before)
	}
}

func TestArraysAreNotChanged(t *testing.T) {
	// The spare capacity has one bits, which neither count as bits of the array nor change.
	store := []uint64{from33, 3, allOnes, allOnes}
	before := slices.Clone(store)
	p := api.Packed{Len: 2, Width: 33, Words: store[:2]}
	checkMay(t, p, true)
	checkAt(t, p, 0, 0, api.OK)
	checkAt(t, p, 1, largest(33), api.OK)
	checkAt(t, p, 2, 0, api.ErrRange)
	if !slices.Equal(store, before) {
		t.Errorf("the words changed: %#x; want %#x", store, before)
	}
}
