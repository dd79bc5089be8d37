package fano_test

import (
	"math"
	"slices"
	"strings"
	"testing"

	"damask/api"
	"damask/fano"
)

const (
	allOnes  = math.MaxUint64
	maxWidth = 20 // of a single element with the bound MaxCode
)

var (
	// extremes are numbers that are no index, bound or element of any sequence.
	extremes = []int{math.MinInt, math.MinInt + 1, -1 << 62, -1 << 32, -api.MaxCode, -64, -2, -1, api.MaxCode + 1,
		2 * api.MaxCode, 1 << 32, 1 << 62, math.MaxInt - 63, math.MaxInt}
	counts = []int{1, 2, 3, 4, 5, 7, 8, 31, 32, 33, 63, 64, 65, 100, 255, 256, 299, api.MaxList}
)

// widthOf returns the width of the encoding of n elements: the first one that is small enough.
func widthOf(bound, n int) int {
	for w := maxWidth; w >= 0; w-- {
		if n > 0 && n*(1<<w) <= bound {
			return w
		}
	}
	return 0
}

// wordsOf returns the words of the bits of the text, bit 0 first.
func wordsOf(text string) []uint64 {
	words := make([]uint64, (len(text)+63)/64)
	for i := range len(text) {
		if text[i] == '1' {
			words[i/64] |= 1 << (i % 64)
		}
	}
	return words
}

// textOf returns the first n bits of the words, or fewer if there are no more.
func textOf(words []uint64, n int) string {
	var text strings.Builder
	for i := range min(n, 64*len(words)) {
		text.WriteByte('0' + byte(words[i/64]>>(i%64)&1))
	}
	return text.String()
}

// encoded returns the encoding of l, written out as text: Low with the lowest bit of each number first, and High with
// a zero for each step from a high part to the next higher one and a one for each element.
func encoded(bound int, l []int) api.Fano {
	width := widthOf(bound, len(l))
	var low, high strings.Builder
	before := 0
	for _, x := range l {
		for k := range width {
			low.WriteByte('0' + byte(x>>k%2))
		}
		part := x / (1 << width)
		high.WriteString(strings.Repeat("0", part-before) + "1")
		before = part
	}
	if len(l) > 0 {
		high.WriteString(strings.Repeat("0", bound/(1<<width)-before+1))
	}
	return api.Fano{
		Bound: bound,
		Low:   api.Packed{Len: len(l), Width: width, Words: wordsOf(low.String())},
		High:  api.Bits{Len: high.Len(), Words: wordsOf(high.String())},
	}
}

// decoded returns the elements that f tells and whether their encoding is f. The numbers of f must be small.
func decoded(f api.Fano) ([]int, bool) {
	var l []int
	low := textOf(f.Low.Words, f.Low.Len*f.Low.Width)
	for i, zeros := range strings.Split(textOf(f.High.Words, f.High.Len), "1") {
		if i == f.Low.Len || len(low) < f.Low.Width || f.Low.Width > maxWidth {
			break
		}
		x := len(zeros) << f.Low.Width
		if i > 0 {
			x += l[i-1] >> f.Low.Width << f.Low.Width
		}
		for k := range f.Low.Width {
			x += int(low[k]-'0') << k
		}
		low = low[f.Low.Width:]
		l = append(l, x)
	}
	if f.Bound < 0 || f.Bound > api.MaxCode || !slices.IsSorted(l) || len(l) > 0 && l[len(l)-1] > f.Bound {
		return nil, false
	}
	return l, same(f, encoded(f.Bound, l))
}

// same reports whether f and g have the same numbers and words.
func same(f, g api.Fano) bool {
	return f.Bound == g.Bound && f.Low.Len == g.Low.Len && f.Low.Width == g.Low.Width && f.High.Len == g.High.Len &&
		slices.Equal(f.Low.Words, g.Low.Words) && slices.Equal(f.High.Words, g.High.Words)
}

// clone returns f with words of its own.
func clone(f api.Fano) api.Fano {
	f.Low.Words, f.High.Words = slices.Clone(f.Low.Words), slices.Clone(f.High.Words)
	return f
}

// repeat returns a list of count times the number x.
func repeat(x, count int) []int {
	return slices.Repeat([]int{x}, count)
}

// fill returns the sorted list of the n numbers f(i).
func fill(n int, f func(i int) int) []int {
	l := make([]int, n)
	for i := range l {
		l[i] = f(i)
	}
	slices.Sort(l)
	return l
}

// shapes returns sequences of n numbers from 0 to bound: all 0, all equal to bound or in the middle, both ends,
// evenly spread single numbers and pairs, numbers at each end, and fixed mixed numbers.
func shapes(bound, n int) [][]int {
	state := uint64(1000*bound + n)
	return [][]int{
		repeat(0, n),
		repeat(bound, n),
		repeat(bound/2, n),
		append(repeat(0, n/2), repeat(bound, n-n/2)...),
		append(repeat(0, n-1), bound),
		append([]int{0}, repeat(bound, n-1)...),
		fill(n, func(i int) int { return (i + 1) * bound / n }),
		fill(n, func(i int) int { return i / 2 * 2 * bound / n }),
		fill(n, func(i int) int { return min(i, bound) }),
		fill(n, func(i int) int { return max(bound-i, 0) }),
		fill(n, func(i int) int {
			state = state*6364136223846793005 + 1442695040888963407
			return int(state>>33) % (bound + 1)
		}),
	}
}

// bounds returns the bounds of n elements of each width, as small and as large as possible, and some others.
func bounds(n int) []int {
	l := []int{0, 1, 2, 3, n - 1, n, n + 1, 1000, 65535, api.MaxCode - 1, api.MaxCode}
	for w := range maxWidth + 1 {
		l = append(l, n<<w-1, n<<w, n<<w+1)
	}
	l = slices.DeleteFunc(l, func(bound int) bool { return bound > api.MaxCode })
	slices.Sort(l)
	return slices.Compact(l)
}

// eachSequence calls f with sequences of all lengths, bounds and shapes.
func eachSequence(f func(bound int, l []int)) {
	for _, n := range counts {
		for _, bound := range bounds(n) {
			for _, l := range shapes(bound, n) {
				f(bound, l)
			}
		}
	}
}

func checkMake(t *testing.T, bound int, l []int, want api.Fano) {
	t.Helper()
	if f, err := fano.Make(bound, l); err != api.OK || !same(f, want) {
		t.Errorf("Make(%d, %v) = %v, %d; want %v, 0", bound, l, f, err, want)
	}
}

func checkNotMade(t *testing.T, bound int, l []int, want api.Errno) {
	t.Helper()
	if f, err := fano.Make(bound, l); err != want || !same(f, api.Fano{}) {
		t.Errorf("Make(%d, %v) = %v, %d; want no elements, %d", bound, l, f, err, want)
	}
}

func checkMay(t *testing.T, f api.Fano, want bool) {
	t.Helper()
	if got := fano.May(f); got != want {
		t.Errorf("May(%v) = %t; want %t", f, got, want)
	}
}

func checkAt(t *testing.T, f api.Fano, i, want int, wantErr api.Errno) {
	t.Helper()
	if got, err := fano.At(f, i); got != want || err != wantErr {
		t.Errorf("At(%v, %d) = %d, %d; want %d, %d", f, i, got, err, want, wantErr)
	}
}

func checkNext(t *testing.T, f api.Fano, x, want int, wantErr api.Errno) {
	t.Helper()
	if got, err := fano.Next(f, x); got != want || err != wantErr {
		t.Errorf("Next(%v, %d) = %d, %d; want %d, %d", f, x, got, err, want, wantErr)
	}
}

// checkInvalid checks that f is not valid, and that this comes before any other error.
func checkInvalid(t *testing.T, f api.Fano) {
	t.Helper()
	checkMay(t, f, false)
	for _, v := range []int{0, 1, 2, -1, f.Bound, f.Low.Len, api.MaxList, api.MaxCode, math.MinInt, math.MaxInt} {
		checkAt(t, f, v, 0, api.ErrForm)
		checkNext(t, f, v, 0, api.ErrForm)
	}
}

// checkNextOf checks Next for x against a search of l from its start.
func checkNextOf(t *testing.T, f api.Fano, l []int, x int) {
	t.Helper()
	for i, y := range l {
		if y >= x {
			checkNext(t, f, x, i, api.OK)
			return
		}
	}
	checkNext(t, f, x, 0, api.ErrNone)
}

// checkElements checks that f is valid and has the elements l.
func checkElements(t *testing.T, f api.Fano, l []int) {
	t.Helper()
	checkMay(t, f, true)
	for i, x := range l {
		checkAt(t, f, i, x, api.OK)
	}
	for _, i := range append([]int{len(l), len(l) + 1, len(l) + 64, api.MaxList, f.High.Len + 1}, extremes...) {
		checkAt(t, f, i, 0, api.ErrRange)
	}
	for _, x := range l {
		checkNextOf(t, f, l, x-1)
		checkNextOf(t, f, l, x)
		checkNextOf(t, f, l, x+1)
	}
	for _, x := range append([]int{0, 1, f.Bound / 2, f.Bound - 1, f.Bound, f.Bound + 1, api.MaxCode}, extremes...) {
		checkNextOf(t, f, l, x)
	}
}

func TestExamples(t *testing.T) {
	f := api.Fano{Bound: 8, Low: api.Packed{Len: 3, Width: 1, Words: []uint64{2}}, High: api.Bits{Len: 8, Words: []uint64{70}}}
	checkMake(t, 8, []int{2, 3, 8}, f)
	checkElements(t, f, []int{2, 3, 8})
	checkAt(t, f, 1, 3, api.OK)
	checkNext(t, f, 4, 2, api.OK)
	checkNext(t, f, 9, 0, api.ErrNone)

	f = api.Fano{Bound: 20, Low: api.Packed{Len: 4, Width: 2, Words: []uint64{30}}, High: api.Bits{Len: 10, Words: []uint64{275}}}
	checkMake(t, 20, []int{2, 3, 9, 20}, f)
	checkElements(t, f, []int{2, 3, 9, 20})
}

func TestNoElements(t *testing.T) {
	for _, bound := range []int{0, 1, 2, 64, 1000, api.MaxCode - 1, api.MaxCode} {
		for _, l := range [][]int{nil, {}, make([]int, 0, 5)} {
			checkMake(t, bound, l, api.Fano{Bound: bound})
		}
		for _, words := range [][]uint64{nil, {}, make([]uint64, 0, 5)} {
			checkElements(t, api.Fano{Bound: bound, Low: api.Packed{Words: words}}, nil)
			checkElements(t, api.Fano{Bound: bound, High: api.Bits{Words: words}}, nil)
			checkElements(t, api.Fano{Bound: bound, Low: api.Packed{Words: words}, High: api.Bits{Words: words}}, nil)
		}
	}
	checkMay(t, api.Fano{}, true)
	checkAt(t, api.Fano{}, 0, 0, api.ErrRange)
	checkNext(t, api.Fano{}, 0, 0, api.ErrNone)
	checkNext(t, api.Fano{}, math.MinInt, 0, api.ErrNone)
}

func TestBoundZero(t *testing.T) {
	checkMake(t, 0, []int{0}, api.Fano{Low: api.Packed{Len: 1}, High: api.Bits{Len: 2, Words: []uint64{1}}})
	checkMake(t, 0, []int{0, 0}, api.Fano{Low: api.Packed{Len: 2}, High: api.Bits{Len: 3, Words: []uint64{3}}})
	checkMake(t, 0, repeat(0, 63), api.Fano{Low: api.Packed{Len: 63}, High: api.Bits{Len: 64, Words: []uint64{allOnes >> 1}}})
	checkMake(t, 0, repeat(0, 64), api.Fano{Low: api.Packed{Len: 64}, High: api.Bits{Len: 65, Words: []uint64{allOnes, 0}}})
	most := api.Fano{Low: api.Packed{Len: api.MaxList}, High: api.Bits{Len: api.MaxList + 1, Words: slices.Repeat([]uint64{allOnes}, 5)}}
	most.High.Words[4] >>= 20
	checkMake(t, 0, repeat(0, api.MaxList), most)
	checkElements(t, most, repeat(0, api.MaxList))
}

func TestLargestNumbers(t *testing.T) {
	checkMake(t, api.MaxCode, []int{api.MaxCode}, api.Fano{Bound: api.MaxCode,
		Low: api.Packed{Len: 1, Width: 20, Words: []uint64{0}}, High: api.Bits{Len: 3, Words: []uint64{2}}})
	checkMake(t, api.MaxCode, []int{api.MaxCode - 1}, api.Fano{Bound: api.MaxCode,
		Low: api.Packed{Len: 1, Width: 20, Words: []uint64{1<<20 - 1}}, High: api.Bits{Len: 3, Words: []uint64{1}}})
	checkMake(t, api.MaxCode-1, []int{api.MaxCode - 1}, api.Fano{Bound: api.MaxCode - 1,
		Low: api.Packed{Len: 1, Width: 19, Words: []uint64{1<<19 - 1}}, High: api.Bits{Len: 3, Words: []uint64{2}}})
	// 300 * 2^11 is at most MaxCode and 300 * 2^12 is not: High has 512 + 300 + 1 bits.
	f, err := fano.Make(api.MaxCode, repeat(api.MaxCode, api.MaxList))
	if err != api.OK || f.Low.Width != 11 || len(f.Low.Words) != 52 || f.High.Len != 813 || len(f.High.Words) != 13 {
		t.Errorf("the encoding of MaxList times MaxCode is %v, %d", f, err)
	}
}

func TestWidths(t *testing.T) {
	for _, n := range counts {
		for w := 0; n<<w <= api.MaxCode+1; w++ {
			checkWidth(t, n<<w-1, n, max(w-1, 0))
			checkWidth(t, n<<w, n, w)
		}
		// There are more elements than the bound, so that no width is small enough.
		checkWidth(t, 0, n, 0)
		checkWidth(t, n/2, n, 0)
		checkWidth(t, n-1, n, 0)
	}
}

// checkWidth checks the width of n elements, and the lengths of Low and High that follow from it.
func checkWidth(t *testing.T, bound, n, want int) {
	t.Helper()
	if bound > api.MaxCode {
		return
	}
	for _, l := range [][]int{repeat(0, n), repeat(bound, n)} {
		f, err := fano.Make(bound, l)
		if err != api.OK || f.Low.Width != want || f.Low.Len != n || f.High.Len != bound/(1<<want)+n+1 {
			t.Errorf("Make(%d, %d elements) = %v, %d; want the width %d", bound, n, f, err, want)
		}
	}
}

func TestEachSequence(t *testing.T) {
	eachSequence(func(bound int, l []int) {
		want := encoded(bound, l)
		checkMake(t, bound, l, want)
		checkMay(t, want, true)
		if got, ok := decoded(want); !ok || !slices.Equal(got, l) {
			t.Fatalf("the test reads %v as %v, not as %v", want, got, l)
		}
		last := len(l) - 1
		for _, i := range []int{0, last / 2, last} {
			checkAt(t, want, i, l[i], api.OK)
			checkNextOf(t, want, l, l[i])
			checkNextOf(t, want, l, l[i]+1)
		}
		checkAt(t, want, len(l), 0, api.ErrRange)
	})
}

func TestElements(t *testing.T) {
	for _, n := range []int{1, 2, 3, 5, 8, 33, 64, 65, api.MaxList} {
		for _, bound := range []int{0, 1, 2, 5, n - 1, n, 2*n - 1, 2 * n, 1000, 65535, api.MaxCode} {
			for _, l := range shapes(bound, n) {
				checkElements(t, encoded(bound, l), l)
			}
		}
	}
}

func TestNextOfEqualElements(t *testing.T) {
	f := encoded(9, []int{1, 1, 1, 4, 4, 9, 9})
	for x, want := range []int{0, 0, 3, 3, 3, 5, 5, 5, 5, 5} {
		checkNext(t, f, x, want, api.OK)
	}
	checkNext(t, f, -1, 0, api.OK)
	checkNext(t, f, math.MinInt, 0, api.OK)
	checkNext(t, f, 10, 0, api.ErrNone)
	checkNext(t, f, math.MaxInt, 0, api.ErrNone)
	// The bound itself is no element.
	f = encoded(9, []int{1, 8})
	checkNext(t, f, 8, 1, api.OK)
	checkNext(t, f, 9, 0, api.ErrNone)
}

func TestEachSmallSequence(t *testing.T) {
	for bound := range 5 {
		for n := range 5 {
			eachList(bound+1, n, func(l []int) {
				if slices.IsSorted(l) {
					checkMake(t, bound, l, encoded(bound, l))
					checkElements(t, encoded(bound, l), l)
				} else {
					checkNotMade(t, bound, l, api.ErrForm)
				}
			})
		}
	}
}

// eachList calls f with each list of n numbers from 0 to base - 1.
func eachList(base, n int, f func(l []int)) {
	total := 1
	for range n {
		total *= base
	}
	for code := range total {
		l := make([]int, n)
		for i := range l {
			l[i] = code % base
			code /= base
		}
		f(l)
	}
}

func TestMakeTooMany(t *testing.T) {
	// The bounds and the numbers are invalid as well, but the length is checked first.
	for _, n := range []int{api.MaxList + 1, api.MaxList + 64, 10000} {
		for _, bound := range append([]int{0, 1, 1000, api.MaxCode}, extremes...) {
			for _, x := range []int{0, 1, -1, api.MaxCode, math.MinInt, math.MaxInt} {
				checkNotMade(t, bound, repeat(x, n), api.ErrSize)
			}
			falling := fill(n, func(i int) int { return i })
			slices.Reverse(falling)
			checkNotMade(t, bound, falling, api.ErrSize)
		}
	}
}

func TestMakeWrongBound(t *testing.T) {
	// The numbers are invalid as well, but the bound is checked first.
	for _, bound := range extremes {
		for _, l := range [][]int{nil, {}, {0}, {0, 1}, {-1}, {bound}, {math.MinInt}, {math.MaxInt}, {2, 1},
			repeat(0, api.MaxList), repeat(-1, api.MaxList)} {
			checkNotMade(t, bound, l, api.ErrRange)
		}
	}
}

// with returns l with x in place of the number with index i.
func with(l []int, i, x int) []int {
	changed := slices.Clone(l)
	changed[i] = x
	return changed
}

func TestMakeWrongNumbers(t *testing.T) {
	for _, bound := range []int{0, 1, 2, 7, 8, 1000, api.MaxCode} {
		for _, n := range []int{1, 2, 3, 64, api.MaxList} {
			for _, l := range shapes(bound, n) {
				for _, i := range []int{0, n / 2, n - 1} {
					for _, x := range append([]int{bound + 1, bound + 2}, extremes...) {
						checkNotMade(t, bound, with(l, i, x), api.ErrForm)
					}
				}
			}
		}
	}
	// The number that is too large or negative does not decrease.
	checkNotMade(t, 5, []int{1, 2, 6}, api.ErrForm)
	checkNotMade(t, 5, []int{6, 6, 6}, api.ErrForm)
	checkNotMade(t, 5, []int{-1, 2, 3}, api.ErrForm)
	checkNotMade(t, 5, []int{-3, -2, -1}, api.ErrForm)
}

func TestMakeDecreasing(t *testing.T) {
	checkNotMade(t, 20, []int{3, 2}, api.ErrForm)
	for _, n := range []int{2, 3, 5, 64, api.MaxList} {
		for _, bound := range []int{2 * n, 2*n + 1, 10000, api.MaxCode} {
			l := fill(n, func(i int) int { return 2*i + 1 })
			checkMake(t, bound, l, encoded(bound, l))
			for _, i := range []int{1, (n + 1) / 2, n - 1} {
				checkMake(t, bound, with(l, i, l[i-1]), encoded(bound, with(l, i, l[i-1])))
				checkNotMade(t, bound, with(l, i, l[i-1]-1), api.ErrForm)
				checkNotMade(t, bound, with(l, i, 0), api.ErrForm)
			}
			checkNotMade(t, bound, with(l, 0, l[1]+1), api.ErrForm)
			checkNotMade(t, bound, with(l, 0, bound), api.ErrForm)
		}
	}
}

// changed returns a copy of f that change has changed.
func changed(f api.Fano, change func(f *api.Fano)) api.Fano {
	f = clone(f)
	change(&f)
	return f
}

func TestInvalidBound(t *testing.T) {
	for _, f := range []api.Fano{{}, encoded(0, []int{0}), encoded(8, []int{2, 3, 8}), encoded(api.MaxCode, []int{7, api.MaxCode})} {
		for _, bound := range extremes {
			f.Bound = bound
			checkInvalid(t, f)
		}
	}
	// The encodings that follow from bounds just out of range.
	checkInvalid(t, api.Fano{Bound: -1, Low: api.Packed{Len: 1}, High: api.Bits{Len: 1, Words: []uint64{1}}})
	checkInvalid(t, encoded(api.MaxCode+1, []int{0}))
	checkInvalid(t, encoded(api.MaxCode+1, []int{1, 2, api.MaxCode}))
}

func TestInvalidWidth(t *testing.T) {
	for _, bound := range []int{0, 3, 8, 100, api.MaxCode} {
		for _, n := range []int{0, 1, 3, 8, 64, api.MaxList} {
			for width := range 63 {
				if width == widthOf(bound, n) {
					continue
				}
				// Low and High are as the wrong width requires: all elements are 0.
				f := api.Fano{Bound: bound, Low: api.Packed{Len: n, Width: width, Words: make([]uint64, (n*width+63)/64)}}
				if n > 0 {
					f.High.Len = bound>>width + n + 1
					f.High.Words = wordsOf(strings.Repeat("1", n) + strings.Repeat("0", bound>>width+1))
				}
				checkInvalid(t, f)
			}
		}
	}
}

func TestInvalidLow(t *testing.T) {
	for _, f := range []api.Fano{{}, encoded(8, []int{2, 3, 8}), encoded(20, []int{5}), encoded(3, []int{0, 1, 2, 3, 3})} {
		for _, v := range append([]int{63, 64, api.MaxList + 1}, extremes...) {
			checkInvalid(t, changed(f, func(f *api.Fano) { f.Low.Len = v }))
			checkInvalid(t, changed(f, func(f *api.Fano) { f.Low.Width = v }))
			checkInvalid(t, changed(f, func(f *api.Fano) { f.Low.Len, f.Low.Width = v, v }))
		}
		for _, word := range []uint64{0, 1, 1 << 63} {
			checkInvalid(t, changed(f, func(f *api.Fano) { f.Low.Words = append(f.Low.Words, word) }))
		}
	}
	f := encoded(8, []int{2, 3, 8})
	for _, words := range [][]uint64{nil, {}, {10}, {1<<63 | 2}, {2, 0}} {
		checkInvalid(t, changed(f, func(f *api.Fano) { f.Low.Words = words }))
	}
	tooMany := api.Fano{Low: api.Packed{Len: api.MaxList + 1}}
	tooMany.High = api.Bits{Len: api.MaxList + 2, Words: wordsOf(strings.Repeat("1", api.MaxList+1) + "0")}
	checkInvalid(t, tooMany)
}

func TestInvalidHigh(t *testing.T) {
	for _, f := range []api.Fano{{}, encoded(0, []int{0}), encoded(8, []int{2, 3, 8}), encoded(3, []int{0, 1, 2, 3, 3}),
		encoded(62, []int{62}), encoded(63, repeat(0, 64))} {
		for _, n := range append([]int{f.High.Len - 1, f.High.Len + 1, api.MaxBits, api.MaxBits + 1}, extremes...) {
			checkInvalid(t, changed(f, func(f *api.Fano) { f.High.Len = n }))
		}
		for _, word := range []uint64{0, 1, 1 << 63} {
			checkInvalid(t, changed(f, func(f *api.Fano) { f.High.Words = append(f.High.Words, word) }))
		}
		if f.High.Len == 0 {
			continue
		}
		for _, words := range [][]uint64{nil, {}, f.High.Words[1:], f.High.Words[:len(f.High.Words)-1]} {
			checkInvalid(t, changed(f, func(f *api.Fano) { f.High.Words = words }))
		}
		checkInvalid(t, changed(f, func(f *api.Fano) { f.High.Words[len(f.High.Words)-1] |= 1 << 63 }))
		checkInvalid(t, changed(f, func(f *api.Fano) { f.High = api.Bits{} }))
	}
	checkInvalid(t, changed(encoded(8, []int{2, 3, 8}), func(f *api.Fano) { f.High.Words[0] |= 1 << 8 }))
}

// highOf returns f with the bits of the text as High.
func highOf(f api.Fano, text string) api.Fano {
	f = clone(f)
	f.High = api.Bits{Len: len(text), Words: wordsOf(text)}
	return f
}

func TestInvalidHighBits(t *testing.T) {
	f := encoded(8, []int{2, 3, 8})
	checkMay(t, highOf(f, "01100010"), true)
	for _, text := range []string{
		"0110001", "011000100", "0110001000", // a bit too few, one too many and two too many
		"00000000", "01000000", "01100000", "00100010", // too few ones
		"11100010", "01110010", "01100011", "11111111", // too many ones
		"01100001", "10000011", // ones for elements greater than the bound
	} {
		checkInvalid(t, highOf(f, text))
	}
	// The high part 4 has the elements 8 and 9, of which only 8 is within the bound.
	checkInvalid(t, changed(f, func(f *api.Fano) { f.Low.Words[0] |= 1 << 2 }))
	// The elements 2 and 3 have one high part: with the low bits 1 and 0 they decrease.
	checkInvalid(t, changed(f, func(f *api.Fano) { f.Low.Words[0] = 1 }))
	checkElements(t, changed(f, func(f *api.Fano) { f.Low.Words[0] = 3 }), []int{3, 3, 8})
	checkElements(t, changed(f, func(f *api.Fano) { f.Low.Words[0] = 0 }), []int{2, 2, 8})

	// One element and the bound 0: the only sequence has the bits 10.
	f = encoded(0, []int{0})
	for _, text := range []string{"", "0", "1", "00", "01", "11", "100", "010", "001"} {
		checkInvalid(t, highOf(f, text))
	}
}

func TestInvalidWithoutElements(t *testing.T) {
	for _, bound := range []int{0, 1, 8, api.MaxCode} {
		f := api.Fano{Bound: bound}
		for width := 1; width <= 62; width++ {
			checkInvalid(t, changed(f, func(f *api.Fano) { f.Low.Width = width }))
		}
		for _, word := range []uint64{0, 1, allOnes} {
			checkInvalid(t, changed(f, func(f *api.Fano) { f.Low.Words = []uint64{word} }))
			checkInvalid(t, changed(f, func(f *api.Fano) { f.High.Words = []uint64{word} }))
		}
		for _, text := range []string{"0", "1", "00", strings.Repeat("0", bound%1000+1), strings.Repeat("0", 64)} {
			checkInvalid(t, highOf(f, text))
		}
		// Elements without High, and High without elements.
		checkInvalid(t, changed(f, func(f *api.Fano) { f.Low.Len = 1 }))
		checkInvalid(t, changed(encoded(bound, []int{0}), func(f *api.Fano) { f.Low = api.Packed{} }))
	}
}

func TestMayOfEachSmallStruct(t *testing.T) {
	// One bit beyond the last number of Low and one beyond the last bit of High may be 1 as well.
	for bound := range 6 {
		for code := range 4 * 3 {
			n, width := code/3, code%3
			for low := range 2 << (n * width) {
				f := api.Fano{Bound: bound, Low: api.Packed{Len: n, Width: width, Words: []uint64{uint64(low)}}}
				if n*width == 0 && low == 0 {
					f.Low.Words = nil
				}
				checkEachHigh(t, f, 10)
			}
		}
	}
}

// checkEachHigh checks May of f with each High of up to most bits.
func checkEachHigh(t *testing.T, f api.Fano, most int) {
	t.Helper()
	// With a wrong width no High is valid, and a few of them are enough.
	if f.Low.Width != widthOf(f.Bound, f.Low.Len) {
		most = 4
	}
	for size := range most + 1 {
		for high := range 2 << size {
			f.High = api.Bits{Len: size, Words: []uint64{uint64(high)}}
			if size == 0 && high == 0 {
				f.High.Words = nil
			}
			_, want := decoded(f)
			checkMay(t, f, want)
		}
	}
}

func TestMayOfEachChangedBit(t *testing.T) {
	for _, n := range []int{1, 2, 3, 20, 64, 100} {
		for _, bound := range []int{0, 1, n, 3 * n, 777, api.MaxCode} {
			for _, l := range shapes(bound, n) {
				f := encoded(bound, l)
				checkEachFlip(t, f, f.Low.Words)
				checkEachFlip(t, f, f.High.Words)
			}
		}
	}
}

// checkEachFlip checks f with each bit of the words flipped, which are its own.
func checkEachFlip(t *testing.T, f api.Fano, words []uint64) {
	t.Helper()
	for i := range 64 * len(words) {
		words[i/64] ^= 1 << (i % 64)
		l, valid := decoded(f)
		checkMay(t, f, valid)
		if valid {
			checkAt(t, f, len(l)/2, l[len(l)/2], api.OK)
			checkNextOf(t, f, l, f.Bound/2)
		} else {
			checkAt(t, f, 0, 0, api.ErrForm)
			checkNext(t, f, 0, 0, api.ErrForm)
		}
		words[i/64] ^= 1 << (i % 64)
	}
}

func TestMayOfEachChangedNumber(t *testing.T) {
	// Another bound may be valid, namely with the same width and number of bits.
	eachSequence(func(bound int, l []int) {
		if len(l) > 65 {
			return
		}
		for _, by := range []int{-64, -2, -1, 1, 2, 64} {
			for _, change := range []func(f *api.Fano){
				func(f *api.Fano) { f.Bound += by },
				func(f *api.Fano) { f.Low.Len += by },
				func(f *api.Fano) { f.Low.Width += by },
				func(f *api.Fano) { f.High.Len += by },
			} {
				f := changed(encoded(bound, l), change)
				want := false
				if min(f.Low.Len, f.Low.Width, f.High.Len) >= 0 {
					_, want = decoded(f)
				}
				checkMay(t, f, want)
			}
		}
	})
}

func TestOtherBounds(t *testing.T) {
	f := encoded(8, []int{2, 3, 8})
	for bound, want := range []bool{false, false, false, false, false, false, false, false, true, true, false, false, false} {
		f.Bound = bound
		checkMay(t, f, want)
	}
}

func TestMakeKeepsNothing(t *testing.T) {
	whole := fill(120, func(i int) int { return 7 * i })
	before := slices.Clone(whole)
	first, err := fano.Make(900, whole[:100])
	second, _ := fano.Make(900, whole[:100])
	checkNotMade(t, 700, whole, api.ErrForm)
	if err != api.OK || !slices.Equal(whole, before) {
		t.Errorf("Make: error %d; its argument is %v", err, whole)
	}
	clear(whole)
	for _, words := range [][]uint64{first.Low.Words, first.High.Words} {
		spare := words[:cap(words)]
		for j := range spare {
			spare[j] = allOnes
		}
	}
	if want := encoded(900, before[:100]); !same(second, want) {
		t.Errorf("an encoding changed with the list or another encoding: %v; want %v", second, want)
	}
}

func TestListsOfOneResultAreApart(t *testing.T) {
	for _, n := range []int{0, 1, 64, api.MaxList} {
		l := fill(n, func(i int) int { return 3 * i })
		f, _ := fano.Make(1000, l)
		want := encoded(1000, l)
		_ = append(f.Low.Words, allOnes)
		if !slices.Equal(f.High.Words, want.High.Words) {
			t.Errorf("High changed with Low: %#x; want %#x", f.High.Words, want.High.Words)
		}
		_ = append(f.High.Words, allOnes)
		if !slices.Equal(f.Low.Words, want.Low.Words) {
			t.Errorf("Low changed with High: %#x; want %#x", f.Low.Words, want.Low.Words)
		}
	}
}

func TestEncodingsAreNotChanged(t *testing.T) {
	// The spare capacity has one bits, which neither count as bits of the encoding nor change.
	l := fill(100, func(i int) int { return 5 * i })
	f := encoded(500, l)
	low := append(slices.Clone(f.Low.Words), allOnes, allOnes)
	high := append(slices.Clone(f.High.Words), allOnes, allOnes)
	lowBefore, highBefore := slices.Clone(low), slices.Clone(high)
	f.Low.Words, f.High.Words = low[:len(f.Low.Words)], high[:len(f.High.Words)]
	checkElements(t, f, l)
	f.Bound = 400
	checkInvalid(t, f)
	if !slices.Equal(low, lowBefore) || !slices.Equal(high, highBefore) {
		t.Errorf("the words changed: %#x and %#x; want %#x and %#x", low, high, lowBefore, highBefore)
	}
}
