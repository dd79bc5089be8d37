package fen_test

import (
	"math"
	"slices"
	"testing"

	"damask/api"
	"damask/fen"
)

// most is the largest element of a valid tree, and -most is the smallest one.
const most = 1 << 40

var (
	// extremes are numbers that are neither an index of a list nor an element of a tree.
	extremes = []int{math.MinInt, math.MinInt + 1, -1 << 62, -most - 2, -most - 1, most + 1, most + 2, 1 << 62,
		math.MaxInt - 1, math.MaxInt}
	// notIndices are small numbers that are no index of any list, either.
	notIndices = append([]int{-api.MaxList, -64, -2, -1, api.MaxList + 1, api.MaxList + 2, 512, 1 << 32}, extremes...)
	// notCoords are numbers that are not in the range from -MaxCoord to MaxCoord.
	notCoords = append([]int{-most, -api.MaxCoord - 2, -api.MaxCoord - 1, api.MaxCoord + 1, api.MaxCoord + 2, most},
		extremes...)
	// lengths has each power of two up to MaxList, one less and one more.
	lengths = []int{1, 2, 3, 4, 5, 7, 8, 9, 15, 16, 17, 31, 32, 33, 63, 64, 65, 127, 128, 129, 255, 256, 257,
		api.MaxList - 1, api.MaxList}
)

// firstOf returns p of the chapter: i + 1 with its least significant one bit cleared, found by trying all bits.
func firstOf(i int) int {
	bit := 1
	for (i+1)/bit%2 == 0 {
		bit *= 2
	}
	return i + 1 - bit
}

// sumOf adds the elements of l with indices from a to b, one by one.
func sumOf(l []int, a, b int) int {
	sum := 0
	for i := a; i <= b; i++ {
		sum += l[i]
	}
	return sum
}

// treeOf returns the tree of l as the chapter describes it, sum by sum.
func treeOf(l []int) []int {
	return fill(len(l), func(i int) int { return sumOf(l, firstOf(i), i) })
}

// listOf returns the list that the tree represents: of each element's sum, all but the last element are known already.
func listOf(tree []int) []int {
	l := make([]int, len(tree))
	for i, sum := range tree {
		l[i] = sum - sumOf(l, firstOf(i), i-1)
	}
	return l
}

// findIn returns the smallest index of l up to which the sum is greater than x, and whether there is one.
func findIn(l []int, x int) (int, bool) {
	sum := 0
	for i, element := range l {
		sum += element
		if sum > x {
			return i, true
		}
	}
	return 0, false
}

// fill returns the list of n numbers in which number i is f(i).
func fill(n int, f func(i int) int) []int {
	l := make([]int, n)
	for i := range l {
		l[i] = f(i)
	}
	return l
}

// same returns the list of n numbers that are all x.
func same(n, x int) []int {
	return fill(n, func(i int) int { return x })
}

// mixed returns n fixed mixed numbers from low to high.
func mixed(n, low, high int) []int {
	state := uint64(1000*n + high)
	return fill(n, func(i int) int {
		state = state*6364136223846793005 + 1442695040888963407
		return low + int(state>>20)%(high-low+1)
	})
}

// with returns a copy of l in which element i is x.
func with(l []int, i, x int) []int {
	c := slices.Clone(l)
	c[i] = x
	return c
}

// increased returns a copy of l in which element i is increased by by.
func increased(l []int, i, by int) []int {
	return with(l, i, l[i]+by)
}

// growing returns lists of n numbers of which none is negative.
func growing(n int) [][]int {
	return [][]int{
		same(n, 0),
		same(n, 1),
		same(n, api.MaxCoord),
		fill(n, func(i int) int { return i }),
		fill(n, func(i int) int { return n - 1 - i }),
		fill(n, func(i int) int { return i % 2 }),
		fill(n, func(i int) int { return 1 - i%2 }),
		fill(n, func(i int) int { return api.MaxCoord * (i % 3 / 2) }),
		with(same(n, 0), 0, 5),
		with(same(n, 0), n/2, 5),
		with(same(n, 0), n-1, 5),
		fill(n, func(i int) int { return max(0, i-n/3) }),
		fill(n, func(i int) int { return max(0, n/3-i) }),
		fill(n, func(i int) int { return max(0, max(i, n-1-i)-2*n/3) }),
		mixed(n, 0, 2),
		mixed(n, 0, api.MaxCoord),
	}
}

// turning returns lists of n numbers of which at least one is negative.
func turning(n int) [][]int {
	return [][]int{
		same(n, -1),
		same(n, -api.MaxCoord),
		fill(n, func(i int) int { return -1 - i }),
		fill(n, func(i int) int { return i - 1 }),
		fill(n, func(i int) int { return api.MaxCoord * (i%2*2 - 1) }),
		with(same(n, 0), 0, -1),
		with(same(n, 3), n/2, -1),
		with(same(n, api.MaxCoord), n-1, -1),
		with(same(n, 2), n-1, -api.MaxCoord),
		with(mixed(n, -api.MaxCoord, api.MaxCoord), n/3, -7),
		with(mixed(n, -3, 3), n-1, -2),
	}
}

// eachList calls f with the lists of all lengths and shapes, and with those without elements.
func eachList(f func(l []int)) {
	f(nil)
	f([]int{})
	for _, n := range lengths {
		for _, l := range append(growing(n), turning(n)...) {
			f(l)
		}
	}
}

// eachSmallList calls f with all lists of up to length numbers from low to low + 2.
func eachSmallList(length, low int, f func(l []int)) {
	count := 1
	for n := range length + 1 {
		for code := range count {
			f(fill(n, func(i int) int {
				digit := code % 3
				code /= 3
				return low + digit
			}))
		}
		count *= 3
	}
}

// wildTrees returns valid trees of n elements that are not the tree of any list that Make takes.
func wildTrees(n int) [][]int {
	return [][]int{
		same(n, most),
		same(n, -most),
		fill(n, func(i int) int { return most * (i%2*2 - 1) }),
		fill(n, func(i int) int { return most * (1 - i%2*2) }),
		with(same(n, 0), 0, most),
		with(same(n, 0), n-1, -most),
		with(same(n, 1), n/2, most-1),
		with(treeOf(same(n, 1)), n-1, api.MaxCoord*api.MaxList+1),
		// Of each of these trees, the list has no negative element.
		treeOf(with(same(n, 0), 0, most)),
		treeOf(with(same(n, 0), n/2, most)),
		treeOf(with(same(n, 0), n-1, most)),
		treeOf(same(n, most/api.MaxList)),
		treeOf(with(same(n, 1), n-1, most-api.MaxList)),
		mixed(n, -most, most),
		mixed(n, most-5, most),
	}
}

// eachTree calls f with the trees of all lists, and with valid trees that are not the result of any call of Make.
func eachTree(f func(tree []int)) {
	eachList(func(l []int) { f(treeOf(l)) })
	for _, n := range lengths {
		for _, tree := range wildTrees(n) {
			f(tree)
		}
	}
}

// notValid returns trees that are not valid: too long ones, and those with one element that is too small or too large.
func notValid() [][]int {
	trees := [][]int{
		same(api.MaxList+1, 0), same(api.MaxList+1, most+1), treeOf(same(api.MaxList+1, 1)), same(api.MaxList+2, 0),
		same(512, -1), same(1<<16, 0),
	}
	for _, n := range []int{1, 2, 3, 4, 8, 9, api.MaxList} {
		for _, x := range extremes {
			for _, i := range []int{0, n / 2, n - 1} {
				trees = append(trees, with(treeOf(mixed(n, 0, 9)), i, x))
			}
			trees = append(trees, same(n, x))
		}
	}
	return trees
}

func checkMake(t *testing.T, l, want []int) {
	t.Helper()
	if tree, err := fen.Make(l); err != api.OK || !slices.Equal(tree, want) {
		t.Errorf("Make(%v) = %v, %d; want %v, 0", l, tree, err, want)
	}
}

func checkNoMake(t *testing.T, l []int, want api.Errno) {
	t.Helper()
	if tree, err := fen.Make(l); err != want || len(tree) != 0 {
		t.Errorf("Make(%v) = %v, %d; want [], %d", l, tree, err, want)
	}
}

func checkAdd(t *testing.T, tree []int, i, by int, want []int) {
	t.Helper()
	if got, err := fen.Add(tree, i, by); err != api.OK || !slices.Equal(got, want) {
		t.Errorf("Add(%v, %d, %d) = %v, %d; want %v, 0", tree, i, by, got, err, want)
	}
}

func checkNoAdd(t *testing.T, tree []int, i, by int, want api.Errno) {
	t.Helper()
	if got, err := fen.Add(tree, i, by); err != want || len(got) != 0 {
		t.Errorf("Add(%v, %d, %d) = %v, %d; want [], %d", tree, i, by, got, err, want)
	}
}

func checkSum(t *testing.T, tree []int, i, want int) {
	t.Helper()
	if got, err := fen.Sum(tree, i); err != api.OK || got != want {
		t.Errorf("Sum(%v, %d) = %d, %d; want %d, 0", tree, i, got, err, want)
	}
}

func checkNoSum(t *testing.T, tree []int, i int, want api.Errno) {
	t.Helper()
	if got, err := fen.Sum(tree, i); err != want || got != 0 {
		t.Errorf("Sum(%v, %d) = %d, %d; want 0, %d", tree, i, got, err, want)
	}
}

func checkFind(t *testing.T, tree []int, x, want int) {
	t.Helper()
	if got, err := fen.Find(tree, x); err != api.OK || got != want {
		t.Errorf("Find(%v, %d) = %d, %d; want %d, 0", tree, x, got, err, want)
	}
}

func checkNoFind(t *testing.T, tree []int, x int, want api.Errno) {
	t.Helper()
	if got, err := fen.Find(tree, x); err != want || got != 0 {
		t.Errorf("Find(%v, %d) = %d, %d; want 0, %d", tree, x, got, err, want)
	}
}

// checkFindIn checks Find with the sums of the list l that the tree represents, none of whose elements is negative.
func checkFindIn(t *testing.T, tree, l []int, x int) {
	t.Helper()
	if want, found := findIn(l, x); found {
		checkFind(t, tree, x, want)
	} else {
		checkNoFind(t, tree, x, api.ErrNone)
	}
}

// checkEachNumber checks Find with numbers around each sum of the first elements, and with those far from them.
func checkEachNumber(t *testing.T, tree []int) {
	t.Helper()
	l := listOf(tree)
	numbers := append([]int{-api.MaxCoord, -2, -1, 0, 1, api.MaxCoord, -most, most}, extremes...)
	sum := 0
	for _, element := range l {
		sum += element
		numbers = append(numbers, sum-1, sum, sum+1)
	}
	if slices.ContainsFunc(l, func(element int) bool { return element < 0 }) {
		for _, x := range numbers {
			checkNoFind(t, tree, x, api.ErrKind)
		}
		return
	}
	slices.Sort(numbers)
	for _, x := range slices.Compact(numbers) {
		checkFindIn(t, tree, l, x)
	}
}

func TestMake(t *testing.T) {
	checkMake(t, []int{1, 2, 3, 4}, []int{1, 3, 3, 10})
	checkMake(t, []int{3, 1, 4, 1, 5}, []int{3, 4, 4, 9, 5})
	checkMake(t, []int{7}, []int{7})
	checkMake(t, []int{0}, []int{0})
	checkMake(t, []int{-api.MaxCoord}, []int{-api.MaxCoord})
	checkMake(t, []int{api.MaxCoord, api.MaxCoord}, []int{api.MaxCoord, 2 * api.MaxCoord})
	checkMake(t, []int{1, 1, 1, 1, 1, 1, 1, 1, 1}, []int{1, 2, 1, 4, 1, 2, 1, 8, 1})
	checkMake(t, []int{1, 2, 4, 8, 16, 32, 64, 128}, []int{1, 3, 4, 15, 16, 48, 64, 255})
	checkMake(t, []int{-1, 2, -3, 4, -5, 6}, []int{-1, 1, -3, 2, -5, 1})
}

func TestMakeWithoutElements(t *testing.T) {
	checkMake(t, nil, nil)
	checkMake(t, []int{}, nil)
	checkMake(t, make([]int, 0, 5), nil)
}

func TestMakeOfEachList(t *testing.T) {
	eachList(func(l []int) { checkMake(t, l, treeOf(l)) })
	eachSmallList(9, -1, func(l []int) { checkMake(t, l, treeOf(l)) })
	for n := range api.MaxList + 1 {
		l := mixed(n, -api.MaxCoord, api.MaxCoord)
		checkMake(t, l, treeOf(l))
	}
}

func TestMakeTooLong(t *testing.T) {
	for _, n := range []int{api.MaxList + 1, api.MaxList + 2, 512, 1 << 16} {
		checkNoMake(t, same(n, 0), api.ErrSize)
		checkNoMake(t, mixed(n, -api.MaxCoord, api.MaxCoord), api.ErrSize)
		for _, x := range notCoords {
			checkNoMake(t, same(n, x), api.ErrSize)
			checkNoMake(t, with(same(n, 1), 0, x), api.ErrSize)
			checkNoMake(t, with(same(n, 1), n-1, x), api.ErrSize)
		}
	}
}

func TestMakeOutOfRange(t *testing.T) {
	for _, n := range lengths {
		for _, x := range notCoords {
			for _, i := range []int{0, n / 2, n - 1} {
				checkNoMake(t, with(same(n, 1), i, x), api.ErrRange)
				checkNoMake(t, with(same(n, -api.MaxCoord), i, x), api.ErrRange)
			}
			checkNoMake(t, same(n, x), api.ErrRange)
		}
	}
	// The sum of the numbers would be in the range.
	checkNoMake(t, []int{api.MaxCoord + 1, -5}, api.ErrRange)
	checkNoMake(t, []int{-5, api.MaxCoord + 1}, api.ErrRange)
}

func TestTreesThatAreNotValid(t *testing.T) {
	for _, tree := range notValid() {
		n := len(tree)
		for _, i := range []int{0, n / 2, n - 1, n, n + 1, -1, math.MinInt, math.MaxInt} {
			for _, by := range []int{0, 1, -api.MaxCoord, api.MaxCoord + 1, math.MaxInt} {
				checkNoAdd(t, tree, i, by, api.ErrForm)
			}
			checkNoSum(t, tree, i, api.ErrForm)
		}
		for _, x := range []int{0, -1, 1, math.MinInt, math.MaxInt} {
			checkNoFind(t, tree, x, api.ErrForm)
		}
	}
}

func TestAddDoesNotMakeATreeValid(t *testing.T) {
	checkNoAdd(t, []int{most + 1}, 0, -1, api.ErrForm)
	checkNoAdd(t, []int{-most - 1}, 0, 1, api.ErrForm)
	checkNoAdd(t, []int{0, most + 1}, 0, -api.MaxCoord, api.ErrForm)
	checkNoAdd(t, same(api.MaxList+1, 0), 0, 0, api.ErrForm)
}

func TestAdd(t *testing.T) {
	checkAdd(t, []int{1, 3, 3, 10}, 0, 5, []int{6, 8, 3, 15})
	checkAdd(t, []int{1, 3, 3, 10}, 1, 5, []int{1, 8, 3, 15})
	checkAdd(t, []int{1, 3, 3, 10}, 2, 5, []int{1, 3, 8, 15})
	checkAdd(t, []int{1, 3, 3, 10}, 3, 5, []int{1, 3, 3, 15})
	checkAdd(t, []int{3, 4, 4, 9, 5}, 1, -2, []int{3, 2, 4, 7, 5})
	checkAdd(t, []int{3, 4, 4, 9, 5}, 4, -api.MaxCoord, []int{3, 4, 4, 9, 5 - api.MaxCoord})
	checkAdd(t, []int{7}, 0, 0, []int{7})
	checkAdd(t, []int{7}, 0, api.MaxCoord, []int{7 + api.MaxCoord})
}

func TestAddToEachElement(t *testing.T) {
	eachList(func(l []int) {
		tree := treeOf(l)
		for i := range l {
			for _, by := range []int{0, 1, -1, 1000, -api.MaxCoord, api.MaxCoord} {
				checkAdd(t, tree, i, by, treeOf(increased(l, i, by)))
			}
		}
	})
}

func TestAddIsMakeOfTheChangedList(t *testing.T) {
	for _, n := range lengths {
		l := mixed(n, -1000, 1000)
		tree, _ := fen.Make(l)
		for i := range l {
			for _, by := range []int{0, 1, -1, api.MaxCoord - 1000, 1000 - api.MaxCoord} {
				want, _ := fen.Make(increased(l, i, by))
				checkAdd(t, tree, i, by, want)
			}
		}
	}
}

func TestAddAfterAdd(t *testing.T) {
	// Zeros to which each element of a list is added, in any order, become that list.
	for _, n := range lengths {
		for _, l := range append(growing(n), turning(n)...) {
			tree := make([]int, n)
			for step := range n {
				// 7 is coprime to every length but 7 and 63, for which a step of 1 goes to each index, too.
				i := step * 7 % n
				if n%7 == 0 {
					i = step
				}
				tree, _ = fen.Add(tree, i, l[i])
			}
			if !slices.Equal(tree, treeOf(l)) {
				t.Errorf("the elements of %v, added to zeros: %v; want %v", l, tree, treeOf(l))
			}
		}
	}
}

func TestAddToWildTrees(t *testing.T) {
	for _, n := range lengths {
		for _, tree := range wildTrees(n) {
			l := listOf(tree)
			for i := range l {
				for _, by := range []int{0, 1, -1, -api.MaxCoord, api.MaxCoord} {
					want := treeOf(increased(l, i, by))
					if slices.Min(want) < -most || slices.Max(want) > most {
						checkNoAdd(t, tree, i, by, api.ErrSize)
					} else {
						checkAdd(t, tree, i, by, want)
					}
				}
			}
		}
	}
}

func TestAddOutOfRange(t *testing.T) {
	eachTree(func(tree []int) {
		n := len(tree)
		for _, i := range append([]int{n, n + 1, -1, -n, -n - 1, api.MaxList}, notIndices...) {
			if i < 0 || i >= n {
				checkNoAdd(t, tree, i, 0, api.ErrRange)
				checkNoAdd(t, tree, i, 1, api.ErrRange)
				checkNoAdd(t, tree, i, api.MaxCoord+1, api.ErrRange)
			}
		}
		if n > 0 {
			for _, by := range notCoords {
				checkNoAdd(t, tree, 0, by, api.ErrRange)
				checkNoAdd(t, tree, n-1, by, api.ErrRange)
			}
		}
	})
}

func TestAddTooMuch(t *testing.T) {
	checkAdd(t, []int{most - 1}, 0, 1, []int{most})
	checkNoAdd(t, []int{most - 1}, 0, 2, api.ErrSize)
	checkAdd(t, []int{1 - most}, 0, -1, []int{-most})
	checkNoAdd(t, []int{1 - most}, 0, -2, api.ErrSize)
	checkAdd(t, []int{most}, 0, 0, []int{most})
	checkAdd(t, []int{most}, 0, -api.MaxCoord, []int{most - api.MaxCoord})
	checkNoAdd(t, []int{most}, 0, 1, api.ErrSize)
	checkNoAdd(t, []int{most}, 0, api.MaxCoord, api.ErrSize)
	checkNoAdd(t, []int{-most}, 0, -1, api.ErrSize)
	checkNoAdd(t, []int{-most}, 0, -api.MaxCoord, api.ErrSize)
	// Only a sum around the element would be too large or too small.
	checkNoAdd(t, []int{0, 0, 0, most}, 0, 1, api.ErrSize)
	checkNoAdd(t, []int{0, -most, 0, 0}, 0, -1, api.ErrSize)
	checkNoAdd(t, []int{0, 0, 0, most}, 2, api.MaxCoord, api.ErrSize)
	// The sums around the element do not change the largest one.
	checkAdd(t, []int{most, 0, most, 0}, 1, 1, []int{most, 1, most, 1})
	checkAdd(t, []int{0, most, 0, 0}, 2, 1, []int{0, most, 1, 1})
	checkAdd(t, []int{0, 0, 0, most, 0}, 4, api.MaxCoord, []int{0, 0, 0, most, api.MaxCoord})
}

func TestAddOrderOfErrors(t *testing.T) {
	full := same(8, most)
	checkNoAdd(t, full, 8, 1, api.ErrRange)
	checkNoAdd(t, full, -1, 1, api.ErrRange)
	checkNoAdd(t, full, 0, api.MaxCoord+1, api.ErrRange)
	checkNoAdd(t, full, 0, 1, api.ErrSize)
	checkNoAdd(t, with(full, 3, most+1), 0, 1, api.ErrForm)
	checkNoAdd(t, with(full, 3, most+1), 8, api.MaxCoord+1, api.ErrForm)
}

func TestAddWithoutElements(t *testing.T) {
	for _, tree := range [][]int{nil, {}, make([]int, 0, 5)} {
		for _, i := range append([]int{0, 1}, notIndices...) {
			checkNoAdd(t, tree, i, 0, api.ErrRange)
			checkNoAdd(t, tree, i, math.MaxInt, api.ErrRange)
		}
	}
}

func TestSum(t *testing.T) {
	for i, want := range []int{0, 1, 3, 6, 10} {
		checkSum(t, []int{1, 3, 3, 10}, i, want)
	}
	checkSum(t, []int{3, 4, 4, 9, 5}, 3, 8)
	checkSum(t, []int{7}, 0, 0)
	checkSum(t, []int{7}, 1, 7)
	checkSum(t, []int{-1, 1, -3, 2}, 3, -2)
	checkSum(t, nil, 0, 0)
	checkSum(t, []int{}, 0, 0)
	checkSum(t, make([]int, 0, 5), 0, 0)
}

func TestSumOfEachTree(t *testing.T) {
	eachTree(func(tree []int) {
		l := listOf(tree)
		for i := range len(l) + 1 {
			checkSum(t, tree, i, sumOf(l, 0, i-1))
		}
	})
	eachSmallList(7, -1, func(l []int) {
		tree, _ := fen.Make(l)
		for i := range len(l) + 1 {
			checkSum(t, tree, i, sumOf(l, 0, i-1))
		}
	})
}

func TestSumOfTheLargestElements(t *testing.T) {
	// The sums of 255 elements are those of eight elements of the tree.
	checkSum(t, same(api.MaxList, most), 255, 8*most)
	checkSum(t, same(api.MaxList, -most), 255, -8*most)
	checkSum(t, same(api.MaxList, most), 256, most)
	checkSum(t, same(api.MaxList, most), api.MaxList, 4*most)
}

func TestSumOutOfRange(t *testing.T) {
	eachTree(func(tree []int) {
		n := len(tree)
		for _, i := range append([]int{n + 1, n + 2, -n - 1}, notIndices...) {
			checkNoSum(t, tree, i, api.ErrRange)
		}
	})
	checkNoSum(t, nil, 1, api.ErrRange)
	checkNoSum(t, make([]int, 0, 5), 1, api.ErrRange)
}

func TestFind(t *testing.T) {
	checkFind(t, []int{1, 3, 3, 10}, 3, 2)
	checkFind(t, []int{1, 3, 3, 10}, 0, 0)
	checkFind(t, []int{1, 3, 3, 10}, 1, 1)
	checkFind(t, []int{1, 3, 3, 10}, 9, 3)
	checkNoFind(t, []int{1, 3, 3, 10}, 10, api.ErrNone)
	checkFind(t, []int{3, 4, 4, 9, 5}, 7, 2)
	checkNoFind(t, []int{3, 4, 4, 9, 5}, 14, api.ErrNone)
	checkNoFind(t, []int{3, 2, 4, 7, 5}, 0, api.ErrKind)
	checkFind(t, []int{7}, -1, 0)
	checkFind(t, []int{7}, 6, 0)
	checkNoFind(t, []int{7}, 7, api.ErrNone)
	checkFind(t, []int{1, 3, 3, 10}, math.MinInt, 0)
	checkNoFind(t, []int{1, 3, 3, 10}, math.MaxInt, api.ErrNone)
}

func TestFindWithZeros(t *testing.T) {
	tree := treeOf([]int{0, 0, 2, 0, 0, 3, 0})
	checkFind(t, tree, -1, 0)
	checkFind(t, tree, 0, 2)
	checkFind(t, tree, 1, 2)
	checkFind(t, tree, 2, 5)
	checkFind(t, tree, 4, 5)
	checkNoFind(t, tree, 5, api.ErrNone)
	for _, n := range lengths {
		checkFind(t, same(n, 0), -1, 0)
		checkFind(t, same(n, 0), math.MinInt, 0)
		checkNoFind(t, same(n, 0), 0, api.ErrNone)
		checkNoFind(t, same(n, 0), math.MaxInt, api.ErrNone)
	}
}

func TestFindWithoutElements(t *testing.T) {
	for _, tree := range [][]int{nil, {}, make([]int, 0, 5)} {
		for _, x := range append([]int{-1, 0, 1}, extremes...) {
			checkNoFind(t, tree, x, api.ErrNone)
		}
	}
}

func TestFindInEachTree(t *testing.T) {
	eachTree(func(tree []int) { checkEachNumber(t, tree) })
	eachSmallList(7, 0, func(l []int) { checkEachNumber(t, treeOf(l)) })
	eachSmallList(6, -1, func(l []int) { checkEachNumber(t, treeOf(l)) })
}

func TestFindWithOneNegativeElement(t *testing.T) {
	for _, n := range []int{1, 2, 3, 4, 7, 8, 9, 64, 65, api.MaxList} {
		for i := range n {
			for _, x := range []int{-1, 0, 5, math.MinInt, math.MaxInt} {
				checkNoFind(t, treeOf(with(same(n, 0), i, -1)), x, api.ErrKind)
				checkNoFind(t, treeOf(with(same(n, 100), i, -1)), x, api.ErrKind)
			}
		}
	}
	// No element of these trees is negative, but an element of their lists is.
	checkNoFind(t, []int{3, 2}, 0, api.ErrKind)
	checkNoFind(t, []int{0, 0, 0, 1, 0, 0, 2, 2}, 0, api.ErrKind)
	checkNoFind(t, same(api.MaxList, most), 0, api.ErrKind)
}

func TestFindInTheLargestTrees(t *testing.T) {
	checkFind(t, []int{most}, most-1, 0)
	checkNoFind(t, []int{most}, most, api.ErrNone)
	checkFind(t, []int{0, 0, 0, most}, most-1, 3)
	checkFind(t, []int{0, 0, most, most, most}, most-1, 2)
	checkFind(t, []int{0, 0, most, most, most}, most, 4)
	checkFind(t, []int{0, 0, most, most, most}, 2*most-1, 4)
	checkNoFind(t, []int{0, 0, most, most, most}, 2*most, api.ErrNone)
}

// marked returns l with spare capacity that contains marks, and the whole of it.
func marked(l []int) ([]int, []int) {
	whole := append(slices.Clone(l), -77, -78, -79)
	return whole[:len(l)], whole
}

func TestListsAreNotChanged(t *testing.T) {
	eachTree(func(numbers []int) {
		l, whole := marked(numbers)
		before := slices.Clone(whole)
		n := len(l)
		fen.Make(l)
		for _, i := range []int{0, n / 2, n - 1, n, -1} {
			fen.Add(l, i, 1)
			fen.Add(l, i, -api.MaxCoord)
			fen.Sum(l, i)
			fen.Find(l, i)
		}
		if !slices.Equal(whole, before) {
			t.Errorf("the list changed: %v; want %v", whole, before)
		}
	})
	for _, tree := range notValid() {
		before := slices.Clone(tree)
		fen.Make(tree)
		fen.Add(tree, 0, 1)
		fen.Sum(tree, 1)
		fen.Find(tree, 1)
		if !slices.Equal(tree, before) {
			t.Errorf("the list changed: %v; want %v", tree, before)
		}
	}
}

func TestResultsAreApart(t *testing.T) {
	for _, n := range lengths {
		l, whole := marked(mixed(n, -9, 9))
		tree, _ := fen.Make(l)
		otherTree, _ := fen.Make(l)
		unchanged, _ := fen.Add(tree, 0, 0)
		last, _ := fen.Add(tree, n-1, 5)
		otherLast, _ := fen.Add(tree, n-1, 5)
		lists := [][]int{whole, tree, otherTree, unchanged, last, otherLast}
		for mark, list := range lists {
			stamp(list, mark)
		}
		for mark, list := range lists {
			if slices.ContainsFunc(list[:cap(list)], func(x int) bool { return x != mark }) {
				t.Errorf("of %d numbers: list %d shares memory with a later one", n, mark)
			}
		}
	}
}

func TestResultsWithoutElementsAreApart(t *testing.T) {
	// A list without elements has spare capacity too, into which an append to the result would write.
	l, whole := marked(nil)
	tree, _ := fen.Make(l)
	stamp(tree, 5)
	if whole[0] != -77 {
		t.Errorf("the tree of no elements shares the spare capacity of its list")
	}
}

// stamp sets each number of l, also in its spare capacity, to mark.
func stamp(l []int, mark int) {
	spare := l[:cap(l)]
	for i := range spare {
		spare[i] = mark
	}
}
