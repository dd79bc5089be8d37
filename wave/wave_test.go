package wave_test

import (
	"math"
	"slices"
	"testing"

	"damask/api"
	"damask/wave"
)

const (
	maxLevels = api.MaxLevels
	greatest  = 1<<maxLevels - 1 // of the numbers with MaxLevels digits
)

var (
	// extremes are numbers that are far from every index and from every number of a list.
	extremes = []int{math.MinInt, math.MinInt + 1, -1 << 62, -1 << 32, 1 << 32, 1 << 62, math.MaxInt - 1, math.MaxInt}
	// notLevels are no numbers of levels.
	notLevels = append([]int{-64, -21, -2, -1, maxLevels + 1, maxLevels + 2, 32, 63, 64, 65, 256}, extremes...)
	// lengths has lengths around the ends of words and of lists.
	lengths = []int{1, 2, 3, 5, 63, 64, 65, 127, 128, 129, 191, 192, 193, 255, 256, 257, api.MaxList - 1, api.MaxList}
	// depths has few and many levels.
	depths = []int{1, 2, 3, 8, maxLevels - 1, maxLevels}
)

// vector returns the bit vector of these digits.
func vector(digits []int) api.Bits {
	b := api.Bits{Len: len(digits), Words: make([]uint64, (len(digits)+63)/64)}
	for i, d := range digits {
		b.Words[i/64] += uint64(d) << (i % 64)
	}
	return b
}

// bit returns bit i of b.
func bit(b api.Bits, i int) int {
	return int(b.Words[i/64] >> (i % 64) % 2)
}

// made returns the wavelet matrix of l. The numbers are moved one by one: first those with the digit 0, then the
// others.
func made(levels int, l []int) api.Wave {
	var w api.Wave
	for weight := 1 << levels / 2; weight > 0; weight /= 2 {
		var digits, moved []int
		for _, x := range l {
			digits = append(digits, x/weight%2)
		}
		for d := range 2 {
			for i, x := range l {
				if digits[i] == d {
					moved = append(moved, x)
				}
			}
		}
		w.Levels = append(w.Levels, vector(digits))
		l = moved
	}
	return w
}

// listOf returns the list of a valid w: it follows the indices of the numbers from level to level.
func listOf(w api.Wave) []int {
	if len(w.Levels) == 0 {
		return nil
	}
	l := make([]int, w.Levels[0].Len)
	order := fill(len(l), func(i int) int { return i })
	for _, level := range w.Levels {
		var moved []int
		for d := range 2 {
			for place, i := range order {
				if bit(level, place) == d {
					l[i] = 2*l[i] + d
					moved = append(moved, i)
				}
			}
		}
		order = moved
	}
	return l
}

// at, rank, below, kth and next are At, Rank, Below, Kth and Next of the matrix of l, told by the list itself.
func at(l []int, i int) (int, api.Errno) {
	if i < 0 || i > len(l)-1 {
		return 0, api.ErrRange
	}
	return l[i], api.OK
}

func rank(l []int, x, i int) (int, api.Errno) {
	if i < 0 || i > len(l) {
		return 0, api.ErrRange
	}
	return count(l[:i], func(y int) bool { return y == x }), api.OK
}

func below(l []int, a, b, x int) (int, api.Errno) {
	if !isRange(l, a, b) {
		return 0, api.ErrRange
	}
	return count(l[a:b], func(y int) bool { return y < x }), api.OK
}

func kth(l []int, a, b, k int) (int, api.Errno) {
	if !isRange(l, a, b) || k < 0 {
		return 0, api.ErrRange
	}
	inOrder := slices.Sorted(slices.Values(l[a:b]))
	if k > len(inOrder)-1 {
		return 0, api.ErrNone
	}
	return inOrder[k], api.OK
}

func next(l []int, a, b, x int) (int, api.Errno) {
	if !isRange(l, a, b) {
		return 0, api.ErrRange
	}
	for _, y := range slices.Sorted(slices.Values(l[a:b])) {
		if y >= x {
			return y, api.OK
		}
	}
	return 0, api.ErrNone
}

func isRange(l []int, a, b int) bool {
	return a >= 0 && b >= a && b <= len(l)
}

// count returns how many of the numbers of l have the property f.
func count(l []int, f func(x int) bool) int {
	n := 0
	for _, x := range l {
		if f(x) {
			n++
		}
	}
	return n
}

// fill returns the list of n numbers in which number i is f(i).
func fill(n int, f func(i int) int) []int {
	l := make([]int, n)
	for i := range l {
		l[i] = f(i)
	}
	return l
}

// same returns the list of n numbers that are all x.
func same(n, x int) []int {
	return fill(n, func(i int) int { return x })
}

// with returns a copy of l in which number i is x.
func with(l []int, i, x int) []int {
	c := slices.Clone(l)
	c[i] = x
	return c
}

// mixer returns a function that returns fixed mixed numbers from low to high, the same ones for the same seed.
func mixer(seed int) func(low, high int) int {
	state := uint64(seed)
	return func(low, high int) int {
		state = state*6364136223846793005 + 1442695040888963407
		return low + int(state>>20)%(high-low+1)
	}
}

// mixed returns n fixed mixed numbers from 0 to high.
func mixed(n, high int) []int {
	number := mixer(1000*n + high)
	return fill(n, func(i int) int { return number(0, high) })
}

// shapes returns lists of n numbers with up to levels digits.
func shapes(levels, n int) [][]int {
	high := 1<<levels - 1
	return [][]int{
		same(n, 0),
		same(n, high),
		same(n, high/2),
		with(same(n, high), n-1, 0),
		with(same(n, 0), 0, high),
		fill(n, func(i int) int { return i % 2 * high }),
		fill(n, func(i int) int { return min(i, high) }),
		fill(n, func(i int) int { return max(high-i, 0) }),
		fill(n, func(i int) int { return i % 5 % (high + 1) }),
		fill(n, func(i int) int { return 1 << (i % levels) }),
		slices.Sorted(slices.Values(mixed(n, high))),
		mixed(n, high),
		mixed(n, min(high, 6)),
	}
}

// mixedWave returns a matrix of fixed mixed digits, as valid as one that Make returns.
func mixedWave(levels, n int) api.Wave {
	digit := mixer(levels + 100*n)
	var w api.Wave
	for range levels {
		w.Levels = append(w.Levels, vector(fill(n, func(i int) int { return digit(0, 1) })))
	}
	return w
}

// equal reports whether v and w have the same levels.
func equal(v, w api.Wave) bool {
	return slices.EqualFunc(v.Levels, w.Levels, func(a, b api.Bits) bool {
		return a.Len == b.Len && slices.Equal(a.Words, b.Words)
	})
}

// numbersFor returns numbers to look for: those of l, those beside them, and others in every direction.
func numbersFor(levels int, l []int) []int {
	xs := append([]int{-2, -1, 0, 1, 1<<levels - 2, 1<<levels - 1, 1 << levels, 1<<levels + 1, 2 << levels}, extremes...)
	for _, x := range l {
		xs = append(xs, x-1, x, x+1, x+1<<levels)
	}
	return sorted(xs...)
}

// some returns at most n of the numbers of l, the first and the last one among them.
func some(l []int, n int) []int {
	if len(l) <= n {
		return l
	}
	return fill(n, func(i int) int { return l[i*(len(l)-1)/(n-1)] })
}

// places returns indices at the start, in the middle, around the first word and at the end of a list of n numbers, and
// one beyond each end.
func places(n int) []int {
	return sorted(-1, 0, 1, n/2, min(63, n), min(64, n), n-1, n, n+1)
}

// allPlaces returns also indices that are far from the list.
func allPlaces(n int) []int {
	return sorted(append(append(places(n), n+64, api.MaxList, api.MaxList+1), extremes...)...)
}

// sorted returns the different numbers of l in order.
func sorted(l ...int) []int {
	return slices.Compact(slices.Sorted(slices.Values(l)))
}

func checkMake(t *testing.T, levels int, l []int) {
	t.Helper()
	got, err := wave.Make(levels, l)
	if want := made(levels, l); err != api.OK || !equal(got, want) {
		t.Fatalf("Make(%d, %v) = %v, %d; want %v, 0", levels, l, got, err, want)
	}
	if !wave.May(got) {
		t.Fatalf("Make(%d, %v) = %v is not valid", levels, l, got)
	}
}

func checkNoMake(t *testing.T, levels int, l []int, want api.Errno) {
	t.Helper()
	if got, err := wave.Make(levels, l); len(got.Levels) != 0 || err != want {
		t.Fatalf("Make(%d, %v) = %v, %d; want {[]}, %d", levels, l, got, err, want)
	}
}

// expect checks a result, given with its error, against another one.
func expect(t *testing.T, what string, w api.Wave, args []int, got int, err api.Errno, want int, code api.Errno) {
	t.Helper()
	if got != want || err != code {
		t.Fatalf("%s%v of %v = %d, %d; want %d, %d", what, args, w, got, err, want, code)
	}
}

// checkAt and the following functions compare the result for the matrix w with that of its list l.
func checkAt(t *testing.T, w api.Wave, l []int, i int) {
	t.Helper()
	got, err := wave.At(w, i)
	want, code := at(l, i)
	expect(t, "At", w, []int{i}, got, err, want, code)
}

func checkRank(t *testing.T, w api.Wave, l []int, x, i int) {
	t.Helper()
	got, err := wave.Rank(w, x, i)
	want, code := rank(l, x, i)
	expect(t, "Rank", w, []int{x, i}, got, err, want, code)
}

func checkBelow(t *testing.T, w api.Wave, l []int, a, b, x int) {
	t.Helper()
	got, err := wave.Below(w, a, b, x)
	want, code := below(l, a, b, x)
	expect(t, "Below", w, []int{a, b, x}, got, err, want, code)
}

func checkKth(t *testing.T, w api.Wave, l []int, a, b, k int) {
	t.Helper()
	got, err := wave.Kth(w, a, b, k)
	want, code := kth(l, a, b, k)
	expect(t, "Kth", w, []int{a, b, k}, got, err, want, code)
}

func checkNext(t *testing.T, w api.Wave, l []int, a, b, x int) {
	t.Helper()
	got, err := wave.Next(w, a, b, x)
	want, code := next(l, a, b, x)
	expect(t, "Next", w, []int{a, b, x}, got, err, want, code)
}

// checkAll compares the results for w with those of its list l, for the indices is and the numbers xs.
func checkAll(t *testing.T, w api.Wave, l, is, xs []int) {
	t.Helper()
	if !wave.May(w) {
		t.Fatalf("May(%v) = false", w)
	}
	for _, i := range is {
		checkAt(t, w, l, i)
		for _, x := range xs {
			checkRank(t, w, l, x, i)
		}
		for _, b := range is {
			for _, x := range xs {
				checkBelow(t, w, l, i, b, x)
				checkNext(t, w, l, i, b, x)
			}
			for _, k := range append([]int{b - i - 1, b - i}, is...) {
				checkKth(t, w, l, i, b, k)
			}
		}
	}
}

// checkForm checks that w is not valid, and that every function says so before anything else.
func checkForm(t *testing.T, w api.Wave) {
	t.Helper()
	if wave.May(w) {
		t.Fatalf("May(%v) = true", w)
	}
	for _, i := range []int{-1, 0, 1, 2, api.MaxList, api.MaxList + 1, math.MinInt, math.MaxInt} {
		got, err := wave.At(w, i)
		expect(t, "At", w, []int{i}, got, err, 0, api.ErrForm)
		for _, j := range []int{-1, 0, 1, i, math.MinInt, math.MaxInt} {
			got, err = wave.Rank(w, j, i)
			expect(t, "Rank", w, []int{j, i}, got, err, 0, api.ErrForm)
			for _, x := range []int{-1, 0, 1, 1 << maxLevels, math.MinInt, math.MaxInt} {
				got, err = wave.Below(w, i, j, x)
				expect(t, "Below", w, []int{i, j, x}, got, err, 0, api.ErrForm)
				got, err = wave.Kth(w, i, j, x)
				expect(t, "Kth", w, []int{i, j, x}, got, err, 0, api.ErrForm)
				got, err = wave.Next(w, i, j, x)
				expect(t, "Next", w, []int{i, j, x}, got, err, 0, api.ErrForm)
			}
		}
	}
}

func TestExamples(t *testing.T) {
	l := []int{2, 1, 3}
	w, err := wave.Make(2, l)
	want := api.Wave{Levels: []api.Bits{{Len: 3, Words: []uint64{5}}, {Len: 3, Words: []uint64{5}}}}
	if err != api.OK || !equal(w, want) {
		t.Errorf("Make(2, %v) = %v, %d; want %v, 0", l, w, err, want)
	}
	if v := (api.Wave{Levels: []api.Bits{vector([]int{1}), vector([]int{1, 0})}}); wave.May(v) {
		t.Errorf("May(%v) = true", v)
	}
	got, err := wave.At(w, 1)
	expect(t, "At", w, []int{1}, got, err, 1, api.OK)
	other, _ := wave.Make(2, []int{2, 1, 2})
	got, err = wave.Rank(other, 2, 2)
	expect(t, "Rank", other, []int{2, 2}, got, err, 1, api.OK)
	got, err = wave.Below(w, 0, 2, 2)
	expect(t, "Below", w, []int{0, 2, 2}, got, err, 1, api.OK)
	got, err = wave.Kth(w, 0, 3, 1)
	expect(t, "Kth", w, []int{0, 3, 1}, got, err, 2, api.OK)
	got, err = wave.Next(w, 0, 3, 3)
	expect(t, "Next", w, []int{0, 3, 3}, got, err, 3, api.OK)
}

func TestLevelsAreStable(t *testing.T) {
	// 5 1 7 1 4, then 1 1 5 7 4, then 1 1 5 4 7.
	w, err := wave.Make(3, []int{5, 1, 7, 1, 4})
	want := api.Wave{Levels: []api.Bits{
		vector([]int{1, 0, 1, 0, 1}), vector([]int{0, 0, 0, 1, 0}), vector([]int{1, 1, 1, 0, 1}),
	}}
	if err != api.OK || !equal(w, want) {
		t.Errorf("Make = %v, %d; want %v, 0", w, err, want)
	}
}

func TestMake(t *testing.T) {
	for _, n := range lengths {
		for _, levels := range depths {
			for _, l := range shapes(levels, n) {
				checkMake(t, levels, l)
			}
		}
	}
}

func TestMakeOfEachLength(t *testing.T) {
	for n := range api.MaxList + 1 {
		checkMake(t, 1, mixed(n, 1))
		checkMake(t, 4, mixed(n, 15))
		checkMake(t, maxLevels, mixed(n, greatest))
	}
}

func TestMakeOfEachNumber(t *testing.T) {
	for x := 0; x < 1<<10; x++ {
		checkMake(t, 10, []int{x})
		checkMake(t, 11, []int{x, 1023 - x, x + 1024})
	}
	for place := range maxLevels {
		checkMake(t, place+1, []int{1 << place})
		checkMake(t, maxLevels, []int{1 << place, greatest, 1<<place - 1, 0})
	}
}

func TestMoreLevelsThanDigits(t *testing.T) {
	for levels := 3; levels <= maxLevels; levels++ {
		for _, n := range lengths {
			checkMake(t, levels, mixed(n, 7))
		}
	}
}

func TestMakeOfNoNumbers(t *testing.T) {
	for levels := range maxLevels + 1 {
		for _, l := range [][]int{nil, {}, make([]int, 0, 5)} {
			checkMake(t, levels, l)
			if w, _ := wave.Make(levels, l); len(w.Levels) != levels {
				t.Errorf("Make(%d, %v) = %v; want %d empty vectors", levels, l, w, levels)
			}
		}
	}
}

func TestMakeWithoutLevels(t *testing.T) {
	for _, n := range append([]int{0}, lengths...) {
		w, err := wave.Make(0, same(n, 0))
		if err != api.OK || len(w.Levels) != 0 {
			t.Errorf("Make(0, %d zeros) = %v, %d; want {[]}, 0", n, w, err)
		}
		checkAll(t, w, nil, allPlaces(n), numbersFor(0, nil))
	}
}

func TestListTooLong(t *testing.T) {
	for _, n := range []int{api.MaxList + 1, api.MaxList + 2, 512, api.MaxBits, api.MaxBits + 1, 1 << 16} {
		for _, levels := range append([]int{0, 1, 2, maxLevels}, notLevels...) {
			checkNoMake(t, levels, same(n, 0), api.ErrSize)
			checkNoMake(t, levels, same(n, 1), api.ErrSize)
			checkNoMake(t, levels, with(same(n, 0), 0, -1), api.ErrSize)
			checkNoMake(t, levels, with(same(n, 0), n-1, math.MaxInt), api.ErrSize)
		}
	}
}

func TestNoSuchLevels(t *testing.T) {
	for _, levels := range notLevels {
		for _, l := range [][]int{nil, {}, {0}, {1}, {-1}, {math.MinInt}, {math.MaxInt}, same(api.MaxList, 0),
			mixed(api.MaxList, greatest)} {
			checkNoMake(t, levels, l, api.ErrRange)
		}
	}
}

func TestNumberDoesNotFit(t *testing.T) {
	for levels := range maxLevels + 1 {
		high := 1<<levels - 1
		for _, n := range []int{1, 2, 3, 64, 65, api.MaxList} {
			checkMake(t, max(levels, 1), same(n, high))
			for _, x := range append([]int{-1, -2, -high - 1, high + 1, high + 2, 2*high + 1, 2*high + 2}, extremes...) {
				for _, i := range []int{0, n / 2, n - 1} {
					checkNoMake(t, levels, with(same(n, 0), i, x), api.ErrRange)
					checkNoMake(t, levels, with(same(n, high), i, x), api.ErrRange)
				}
				checkNoMake(t, levels, same(n, x), api.ErrRange)
			}
		}
	}
}

func TestSmallMatrices(t *testing.T) {
	// Every matrix of a few digits, with every argument around its numbers: each one is what Make returns for its list.
	for levels := 1; levels <= 3; levels++ {
		for n := 0; n <= 4 && n*levels <= 9; n++ {
			is := fill(n+4, func(i int) int { return i - 2 })
			xs := fill(1<<levels+4, func(i int) int { return i - 2 })
			for all := range 1 << (n * levels) {
				var w api.Wave
				for level := range levels {
					w.Levels = append(w.Levels, vector(fill(n, func(i int) int { return all >> (level*n + i) % 2 })))
				}
				l := listOf(w)
				if !equal(made(levels, l), w) {
					t.Fatalf("the matrix of %v is %v, not %v", l, made(levels, l), w)
				}
				checkMake(t, levels, l)
				checkAll(t, w, l, is, xs)
			}
		}
	}
}

func TestQueries(t *testing.T) {
	for _, n := range lengths {
		for _, levels := range depths {
			for _, l := range shapes(levels, n) {
				checkAll(t, made(levels, l), l, places(n), some(numbersFor(levels, l), 11))
			}
		}
	}
}

func TestQueriesOfMixedMatrices(t *testing.T) {
	for _, n := range lengths {
		for _, levels := range depths {
			w := mixedWave(levels, n)
			l := listOf(w)
			checkMake(t, levels, l)
			checkAll(t, w, l, allPlaces(n), some(numbersFor(levels, l), 25))
		}
	}
}

func TestEachIndex(t *testing.T) {
	for _, n := range lengths {
		for _, w := range []api.Wave{mixedWave(3, n), mixedWave(maxLevels, n), made(4, mixed(n, 12))} {
			l := listOf(w)
			for i := -2; i <= n+2; i++ {
				checkAt(t, w, l, i)
				for x := -1; x <= 16; x++ {
					checkRank(t, w, l, x, i)
				}
				checkRank(t, w, l, l[0], i)
				checkRank(t, w, l, l[n-1], i)
				checkRank(t, w, l, l[min(max(i, 0), n-1)], i)
			}
		}
	}
}

func TestEachRange(t *testing.T) {
	for _, n := range []int{1, 2, 63, 64, 65} {
		for _, w := range []api.Wave{made(3, mixed(n, 7)), mixedWave(maxLevels, n)} {
			l := listOf(w)
			x := slices.Sorted(slices.Values(l))[n/2]
			for a := -1; a <= n+1; a++ {
				for b := -1; b <= n+1; b++ {
					checkBelow(t, w, l, a, b, x)
					checkNext(t, w, l, a, b, x)
					checkNext(t, w, l, a, b, 0)
					checkKth(t, w, l, a, b, 0)
					checkKth(t, w, l, a, b, (b-a)/2)
					checkKth(t, w, l, a, b, b-a-1)
					checkKth(t, w, l, a, b, b-a)
				}
			}
		}
	}
}

func TestEachKth(t *testing.T) {
	for _, n := range lengths {
		for _, l := range shapes(8, n) {
			w := made(8, l)
			for k, want := range slices.Sorted(slices.Values(l)) {
				got, err := wave.Kth(w, 0, n, k)
				expect(t, "Kth", w, []int{0, n, k}, got, err, want, api.OK)
			}
			for _, k := range []int{n, n + 1, n + 64, api.MaxList, 1 << 32, math.MaxInt - 1, math.MaxInt} {
				got, err := wave.Kth(w, 0, n, k)
				expect(t, "Kth", w, []int{0, n, k}, got, err, 0, api.ErrNone)
			}
		}
	}
}

func TestEachNumber(t *testing.T) {
	for _, n := range lengths {
		for _, l := range [][]int{mixed(n, 63), fill(n, func(i int) int { return i * 7 % 64 / 3 * 3 })} {
			w := made(6, l)
			for x := -2; x <= 66; x++ {
				checkRank(t, w, l, x, n)
				checkBelow(t, w, l, 0, n, x)
				checkNext(t, w, l, 0, n, x)
				checkBelow(t, w, l, n/3, n-n/3, x)
				checkNext(t, w, l, n/3, n-n/3, x)
			}
		}
	}
}

func TestNumbersBeyondTheLevels(t *testing.T) {
	// Only the lower digits of such a number could be followed: the result must not be that of those digits.
	l := []int{0, 3, 1, 2, 3}
	w := made(2, l)
	for _, x := range append([]int{4, 5, 6, 7, 8, 1 << 21, 1<<21 + 3, -1, -2, -3, -4, -5, -1 << 21}, extremes...) {
		for b := range len(l) + 1 {
			got, err := wave.Rank(w, x, b)
			expect(t, "Rank", w, []int{x, b}, got, err, 0, api.OK)
			for a := range b + 1 {
				got, err = wave.Below(w, a, b, x)
				want := 0
				if x > 0 {
					want = b - a
				}
				expect(t, "Below", w, []int{a, b, x}, got, err, want, api.OK)
				checkNext(t, w, l, a, b, x)
			}
		}
	}
}

func TestEmptyRanges(t *testing.T) {
	for _, n := range lengths {
		w := mixedWave(5, n)
		for _, i := range []int{0, 1, n / 2, n - 1, n} {
			for _, x := range append([]int{-1, 0, 1, 31, 32}, extremes...) {
				got, err := wave.Below(w, i, i, x)
				expect(t, "Below", w, []int{i, i, x}, got, err, 0, api.OK)
				got, err = wave.Next(w, i, i, x)
				expect(t, "Next", w, []int{i, i, x}, got, err, 0, api.ErrNone)
				code := api.ErrNone
				if x < 0 {
					code = api.ErrRange
				}
				got, err = wave.Kth(w, i, i, x)
				expect(t, "Kth", w, []int{i, i, x}, got, err, 0, code)
			}
		}
	}
}

func TestNoNumbers(t *testing.T) {
	for levels := range maxLevels + 1 {
		for _, words := range [][]uint64{nil, {}, make([]uint64, 0, 3)} {
			w := api.Wave{Levels: slices.Repeat([]api.Bits{{Words: words}}, levels)}
			checkAll(t, w, nil, places(0), numbersFor(levels, nil))
		}
	}
	for _, w := range []api.Wave{{}, {Levels: []api.Bits{}}, {Levels: make([]api.Bits, 0, 3)}} {
		checkAll(t, w, nil, allPlaces(0), numbersFor(0, nil))
	}
}

func TestOneNumber(t *testing.T) {
	for _, levels := range depths {
		for _, x := range []int{0, 1, 1<<levels - 2, 1<<levels - 1} {
			l := []int{x}
			checkMake(t, levels, l)
			checkAll(t, made(levels, l), l, allPlaces(1), numbersFor(levels, l))
		}
	}
}

func TestOrderOfErrors(t *testing.T) {
	l := []int{2, 1, 3}
	w := made(2, l)
	for _, i := range []int{-1, 4, math.MinInt, math.MaxInt} {
		got, err := wave.Rank(w, i, i)
		expect(t, "Rank", w, []int{i, i}, got, err, 0, api.ErrRange)
		for _, span := range [][2]int{{i, 3}, {0, i}, {i, i}, {2, 1}, {3, 2}, {-1, 4}, {math.MaxInt, math.MinInt},
			{math.MinInt, math.MaxInt}} {
			for _, x := range []int{-1, 0, 2, 3, 4, math.MinInt, math.MaxInt} {
				got, err = wave.Below(w, span[0], span[1], x)
				expect(t, "Below", w, []int{span[0], span[1], x}, got, err, 0, api.ErrRange)
				got, err = wave.Kth(w, span[0], span[1], x)
				expect(t, "Kth", w, []int{span[0], span[1], x}, got, err, 0, api.ErrRange)
				got, err = wave.Next(w, span[0], span[1], x)
				expect(t, "Next", w, []int{span[0], span[1], x}, got, err, 0, api.ErrRange)
			}
		}
	}
	for _, k := range []int{-1, -2, math.MinInt} {
		for b := range 4 {
			got, err := wave.Kth(w, 0, b, k)
			expect(t, "Kth", w, []int{0, b, k}, got, err, 0, api.ErrRange)
		}
	}
}

func TestLimitsOfMatrices(t *testing.T) {
	for _, n := range []int{0, 1, 64, api.MaxList - 1, api.MaxList} {
		for levels := range maxLevels + 1 {
			if w := mixedWave(levels, n); !wave.May(w) {
				t.Errorf("May(%v) = false", w)
			}
		}
	}
}

func TestTooManyLevels(t *testing.T) {
	for _, levels := range []int{maxLevels + 1, maxLevels + 2, 32, 63, 64, 65, 200} {
		for _, n := range []int{0, 1, 3, 64, api.MaxList, api.MaxList + 1} {
			checkForm(t, mixedWave(levels, n))
		}
	}
}

func TestDifferentLengths(t *testing.T) {
	for _, levels := range []int{2, 3, maxLevels} {
		for _, n := range []int{1, 2, 63, 64, 65, 128, api.MaxList} {
			for _, other := range []int{0, n - 1, n + 1, 2 * n} {
				for _, i := range []int{0, levels / 2, levels - 1} {
					w := mixedWave(levels, n)
					w.Levels[i] = vector(mixed(other, 1))
					checkForm(t, w)
				}
			}
		}
	}
	checkForm(t, api.Wave{Levels: []api.Bits{{}, vector([]int{0})}})
	checkForm(t, api.Wave{Levels: []api.Bits{vector([]int{0}), {}}})
}

func TestInvalidVectors(t *testing.T) {
	for _, levels := range []int{1, 2, maxLevels} {
		for _, n := range []int{0, 1, 3, 63, 64, 65, 128, 129, api.MaxList} {
			for _, i := range []int{0, levels / 2, levels - 1} {
				damage := func(change func(b *api.Bits)) {
					t.Helper()
					w := mixedWave(levels, n)
					change(&w.Levels[i])
					checkForm(t, w)
				}
				damage(func(b *api.Bits) { b.Words = append(b.Words, 0) })
				if n > 0 {
					damage(func(b *api.Bits) { b.Words = b.Words[:len(b.Words)-1] })
					damage(func(b *api.Bits) { b.Words = nil })
				}
				if n%64 > 0 {
					damage(func(b *api.Bits) { b.Words[n/64] |= 1 << (n % 64) })
					damage(func(b *api.Bits) { b.Words[n/64] |= 1 << 63 })
				}
				for _, length := range append([]int{-1, -64, api.MaxBits + 1}, extremes...) {
					damage(func(b *api.Bits) { b.Len = length })
				}
			}
		}
		// All lengths are the same, but no vector can have them.
		for _, length := range append([]int{-1, -63, -64, api.MaxBits + 1}, extremes...) {
			for _, words := range [][]uint64{nil, {0}} {
				checkForm(t, api.Wave{Levels: slices.Repeat([]api.Bits{{Len: length, Words: words}}, levels)})
			}
		}
		checkForm(t, api.Wave{Levels: slices.Repeat([]api.Bits{vector(same(api.MaxBits+1, 0))}, levels)})
	}
}

func TestVectorsTooLong(t *testing.T) {
	for _, n := range []int{api.MaxList + 1, api.MaxList + 2, 320, 512, api.MaxBits} {
		for _, levels := range []int{1, 2, maxLevels} {
			checkForm(t, mixedWave(levels, n))
			checkForm(t, made(levels, same(n, 0)))
		}
	}
}

// stamp sets each element of l, also in its spare capacity, to mark.
func stamp[T any](l []T, mark T) {
	spare := l[:cap(l)]
	for i := range spare {
		spare[i] = mark
	}
}

func TestListIsNotChanged(t *testing.T) {
	// The spare capacity of the list has other numbers, which neither count nor change.
	for _, n := range []int{0, 1, 64, 65, api.MaxList} {
		whole := append(mixed(n, 255), 256, -1, 3)
		given := slices.Clone(whole)
		checkMake(t, 8, whole[:n])
		checkMake(t, maxLevels, whole[:n])
		if n < api.MaxList {
			checkNoMake(t, 8, whole[:n+1], api.ErrRange)
		} else {
			checkNoMake(t, 8, whole[:n+1], api.ErrSize)
		}
		checkNoMake(t, maxLevels+1, whole[:n], api.ErrRange)
		if !slices.Equal(whole, given) {
			t.Errorf("the list changed: %v; want %v", whole, given)
		}
	}
}

func TestMatrixIsNotChanged(t *testing.T) {
	for _, n := range []int{0, 1, 64, 65, api.MaxList} {
		for _, levels := range []int{0, 1, 5, maxLevels} {
			// The spare capacity of each list has other elements.
			spare := api.Bits{Len: -7, Words: []uint64{8, 9}}
			whole := append(mixedWave(levels, n).Levels, spare, spare)
			for i, b := range whole[:levels] {
				whole[i].Words = append(b.Words, math.MaxUint64, 5)[:len(b.Words)]
			}
			given := slices.Clone(whole)
			for i, b := range given {
				given[i].Words = slices.Clone(b.Words[:cap(b.Words)])
			}
			w := api.Wave{Levels: whole[:levels]}
			l := listOf(w)
			checkAll(t, w, l, places(n), some(numbersFor(levels, l), 9))
			checkForm(t, api.Wave{Levels: whole})
			for i, b := range whole {
				if b.Len != given[i].Len || !slices.Equal(b.Words[:cap(b.Words)], given[i].Words) {
					t.Errorf("level %d changed: %v; want %v", i, b, given[i])
				}
			}
		}
	}
}

func TestResultsAreApart(t *testing.T) {
	for _, n := range []int{1, 2, 63, 64, 65, api.MaxList} {
		for _, levels := range []int{1, 2, maxLevels} {
			l := append(mixed(n, 1<<levels-1), 1, 2, 3)[:n]
			given := slices.Clone(l[:cap(l)])
			want := made(levels, l)
			w, _ := wave.Make(levels, l)
			other, _ := wave.Make(levels, l)
			for i := range levels {
				stamp(w.Levels[i].Words, 0xABCDEF)
				if rest := (api.Wave{Levels: w.Levels[i+1:]}); !equal(rest, api.Wave{Levels: want.Levels[i+1:]}) {
					t.Errorf("the levels behind level %d changed with it: %v", i, rest)
				}
			}
			stamp(w.Levels, api.Bits{Len: 5})
			if !slices.Equal(l[:cap(l)], given) {
				t.Errorf("the list changed with the matrix: %v; want %v", l[:cap(l)], given)
			}
			if !equal(other, want) {
				t.Errorf("a second matrix changed with the first one: %v; want %v", other, want)
			}
			stamp(l, 1)
			if !equal(other, want) {
				t.Errorf("the matrix changed with the list: %v; want %v", other, want)
			}
			checkMake(t, levels, given[:n])
		}
	}
}

func TestLevelsAreApartInReverse(t *testing.T) {
	for _, n := range []int{1, 64, 65, api.MaxList} {
		l := mixed(n, 255)
		want := made(8, l)
		w, _ := wave.Make(8, l)
		for i := 7; i >= 0; i-- {
			stamp(w.Levels[i].Words, 0xABCDEF)
			if rest := (api.Wave{Levels: w.Levels[:i]}); !equal(rest, api.Wave{Levels: want.Levels[:i]}) {
				t.Errorf("the levels before level %d changed with it: %v", i, rest)
			}
		}
	}
}
