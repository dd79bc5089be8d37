package ranks_test

import (
	"math"
	"slices"
	"testing"

	"damask/api"
	"damask/ranks"
)

var (
	// small are the numbers of which all short lists are made, and so are extremes: some of the differences between these
	// are greater than any int.
	small    = []int{-2, -1, 0, 1, 2}
	extremes = []int{math.MinInt, math.MinInt + 1, 0, math.MaxInt - 1, math.MaxInt}
	// probes are numbers to look for in any list.
	probes = []int{math.MinInt, math.MinInt + 1, -1 << 62, -1 << 32, -301, -3, -2, -1, 0, 1, 2, 3, 149, 150, 151, 299,
		300, 301, 1 << 32, 1 << 62, math.MaxInt - 1, math.MaxInt}
	// lengths are numbers of elements of lists, the largest one that is allowed among them.
	lengths = []int{1, 2, 3, 4, 5, 7, 8, 9, 31, 32, 33, 63, 64, 65, 127, 128, 129, 255, 256, 257, api.MaxList - 1,
		api.MaxList}
	// tooLong are numbers of elements of lists that are too long.
	tooLong = []int{api.MaxList + 1, api.MaxList + 2, 2 * api.MaxList, 512, 1 << 16}
	// fallsAt are the indices at which a list of MaxList numbers is made not to increase.
	fallsAt = []int{1, 2, 3, api.MaxList / 3, api.MaxList/2 - 1, api.MaxList / 2, api.MaxList/2 + 1, api.MaxList - 3,
		api.MaxList - 2, api.MaxList - 1}
)

// fill returns the list of n numbers in which number i is f(i).
func fill(n int, f func(i int) int) []int {
	l := make([]int, n)
	for i := range l {
		l[i] = f(i)
	}
	return l
}

func equal(n, x int) []int {
	return fill(n, func(int) int { return x })
}

// rising returns n numbers with the same step from each one to the next.
func rising(n, first, step int) []int {
	return fill(n, func(i int) int { return first + i*step })
}

// wide returns n numbers, at least two, that rise from the smallest int to the largest.
func wide(n int) []int {
	step := math.MaxUint64 / uint64(n-1)
	l := fill(n, func(i int) int { return math.MinInt + int(uint64(i)*step) })
	l[n-1] = math.MaxInt
	return l
}

func falling(l []int) []int {
	c := slices.Clone(l)
	slices.Reverse(c)
	return c
}

// mixed returns the numbers of l in a fixed mixed order.
func mixed(l []int) []int {
	c := slices.Clone(l)
	word := uint64(len(l))
	for i := range c {
		word = word*6364136223846793005 + 1442695040888963407
		j := int(word>>33) % (i + 1)
		c[i], c[j] = c[j], c[i]
	}
	return c
}

// with returns a copy of l in which number i is x.
func with(l []int, i, x int) []int {
	c := slices.Clone(l)
	c[i] = x
	return c
}

// orders returns l rising, falling and mixed; l is a rising list.
func orders(l []int) [][]int {
	return [][]int{l, falling(l), mixed(l)}
}

// distinctLists returns strictly rising lists of n numbers, at least one: in a row and with gaps, negative ones and
// positive ones, close together and as far apart as numbers can be.
func distinctLists(n int) [][]int {
	lists := [][]int{
		rising(n, 0, 1),
		rising(n, -n, 1),
		rising(n, -n/2, 1),
		rising(n, 1, 2),
		rising(n, -1000, 7),
		rising(n, math.MinInt, 1),
		rising(n, math.MinInt, 1<<50),
		rising(n, math.MaxInt-n+1, 1),
		rising(n, -1<<40, 1<<33),
	}
	if n > 1 {
		lists = append(lists, wide(n))
	}
	return lists
}

// repeatingLists returns lists of n numbers, at least one, that rise, but have some numbers twice or more often, if they
// are not too short for that.
func repeatingLists(n int) [][]int {
	return [][]int{
		equal(n, 0),
		equal(n, -7),
		equal(n, math.MinInt),
		equal(n, math.MaxInt),
		fill(n, func(i int) int { return i / 2 }),
		fill(n, func(i int) int { return i/3 - n/4 }),
		fill(n, func(i int) int { return i / 100 }),
		// Only the first number, and only the last one, is there twice.
		fill(n, func(i int) int { return max(i, 1) }),
		fill(n, func(i int) int { return min(i, max(n-2, 0)) }),
		fill(n, func(i int) int { return []int{math.MinInt, math.MaxInt}[2*i/n] }),
		fill(n, func(i int) int { return extremes[5*i/n] }),
	}
}

// eachList calls f with all lists of up to most numbers that are among digits.
func eachList(digits []int, most int, f func(l []int)) {
	count := 1
	for n := range most + 1 {
		for code := range count {
			f(fill(n, func(int) int {
				x := digits[code%len(digits)]
				code /= len(digits)
				return x
			}))
		}
		count *= len(digits)
	}
}

// isIncreasing reports whether each element of l is less than all elements behind it.
func isIncreasing(l []int) bool {
	for j := range l {
		for i := range j {
			if l[i] >= l[j] {
				return false
			}
		}
	}
	return true
}

// countBelow counts the elements of l that are less than x.
func countBelow(l []int, x int) int {
	count := 0
	for _, y := range l {
		if y < x {
			count++
		}
	}
	return count
}

// isCompression reports whether values and places are what the definition says: values is strictly increasing and has
// numbers of l alone, and each number of l is the one in values that places tells.
func isCompression(l, values, places []int) bool {
	if !isIncreasing(values) || len(places) != len(l) {
		return false
	}
	for _, x := range values {
		if !slices.Contains(l, x) {
			return false
		}
	}
	for i, place := range places {
		if place < 0 || place >= len(values) || values[place] != l[i] {
			return false
		}
	}
	return true
}

// stamp sets each element of l, also in its spare capacity, to a number that is in no list.
func stamp(l []int) {
	spare := l[:cap(l)]
	for i := range spare {
		spare[i] = -77777
	}
}

// roomy returns a copy of l with elements in its spare capacity.
func roomy(l []int) []int {
	c := append(make([]int, 0, len(l)+5), l...)
	copy(c[len(l):cap(c)], []int{9, -9, 0, math.MinInt, math.MaxInt})
	return c
}

// checkMake checks the result of Make, and that the definition agrees with it.
func checkMake(t *testing.T, l, wantValues, wantPlaces []int) {
	t.Helper()
	values, places, err := ranks.Make(l)
	if err != api.OK || !slices.Equal(values, wantValues) || !slices.Equal(places, wantPlaces) {
		t.Errorf("Make(%v) = %v, %v, %d; want %v, %v, 0", l, values, places, err, wantValues, wantPlaces)
	}
	if !isCompression(l, wantValues, wantPlaces) {
		t.Errorf("%v and %v are not the distinct numbers and the ranks of %v", wantValues, wantPlaces, l)
	}
}

// checkDefinition checks that Make returns what the definition says.
func checkDefinition(t *testing.T, l []int) {
	t.Helper()
	if values, places, err := ranks.Make(l); err != api.OK || !isCompression(l, values, places) {
		t.Errorf("Make(%v) = %v, %v, %d", l, values, places, err)
	}
}

func checkNoMake(t *testing.T, l []int) {
	t.Helper()
	if values, places, err := ranks.Make(l); err != api.ErrSize || len(values) != 0 || len(places) != 0 {
		t.Errorf("Make of %d numbers = %v, %v, %d; want [], [], %d", len(l), values, places, err, api.ErrSize)
	}
}

func checkFind(t *testing.T, values []int, x, want int) {
	t.Helper()
	if got, err := ranks.Find(values, x); err != api.OK || got != want {
		t.Errorf("Find(%v, %d) = %d, %d; want %d, 0", values, x, got, err, want)
	}
}

func checkNoFind(t *testing.T, values []int, x int, want api.Errno) {
	t.Helper()
	if got, err := ranks.Find(values, x); err != want || got != 0 {
		t.Errorf("Find(%v, %d) = %d, %d; want 0, %d", values, x, got, err, want)
	}
}

// checkProbes checks that Find of each probe yields the error.
func checkProbes(t *testing.T, values []int, want api.Errno) {
	t.Helper()
	for _, x := range probes {
		checkNoFind(t, values, x, want)
	}
}

func TestMake(t *testing.T) {
	checkMake(t, []int{7, 3, 7}, []int{3, 7}, []int{1, 0, 1})
	checkMake(t, []int{7, -2, 7, 5}, []int{-2, 5, 7}, []int{2, 0, 2, 1})
	checkMake(t, []int{5}, []int{5}, []int{0})
	checkMake(t, []int{4, 4, 4}, []int{4}, []int{0, 0, 0})
	checkMake(t, []int{2, 4, 8}, []int{2, 4, 8}, []int{0, 1, 2})
	checkMake(t, []int{8, 4, 2}, []int{2, 4, 8}, []int{2, 1, 0})
	checkMake(t, []int{4, 8, 2}, []int{2, 4, 8}, []int{1, 2, 0})
	checkMake(t, []int{1, 1, 9, 9, 9}, []int{1, 9}, []int{0, 0, 1, 1, 1})
	checkMake(t, []int{6, 1, 3, 6}, []int{1, 3, 6}, []int{2, 0, 1, 2})
	checkMake(t, []int{0, -1, 1, -1}, []int{-1, 0, 1}, []int{1, 0, 2, 0})
	checkMake(t, []int{-3, -5, -4}, []int{-5, -4, -3}, []int{2, 0, 1})
	checkMake(t, []int{0}, []int{0}, []int{0})
}

func TestMakeWithoutElements(t *testing.T) {
	checkMake(t, nil, nil, nil)
	checkMake(t, []int{}, nil, nil)
	checkMake(t, roomy(nil), nil, nil)
}

func TestMakeWithExtremes(t *testing.T) {
	checkMake(t, []int{math.MinInt}, []int{math.MinInt}, []int{0})
	checkMake(t, []int{math.MaxInt}, []int{math.MaxInt}, []int{0})
	checkMake(t, []int{math.MaxInt, math.MinInt}, []int{math.MinInt, math.MaxInt}, []int{1, 0})
	checkMake(t, []int{math.MinInt, math.MaxInt}, []int{math.MinInt, math.MaxInt}, []int{0, 1})
	checkMake(t, []int{math.MaxInt, 0, math.MinInt, -1, math.MaxInt}, []int{math.MinInt, -1, 0, math.MaxInt},
		[]int{3, 2, 0, 1, 3})
	checkMake(t, []int{math.MinInt + 1, math.MinInt, math.MaxInt - 1, math.MaxInt},
		[]int{math.MinInt, math.MinInt + 1, math.MaxInt - 1, math.MaxInt}, []int{1, 0, 2, 3})
}

func TestMakeEachSmallList(t *testing.T) {
	eachList(small, 6, func(l []int) { checkDefinition(t, l) })
	eachList(extremes, 6, func(l []int) { checkDefinition(t, l) })
}

func TestMakeOfDifferentNumbers(t *testing.T) {
	for _, n := range lengths {
		for _, l := range distinctLists(n) {
			checkMake(t, l, l, rising(n, 0, 1))
			checkMake(t, falling(l), l, rising(n, n-1, -1))
			checkDefinition(t, mixed(l))
		}
	}
}

func TestMakeOfNumbersThatOccurMoreOften(t *testing.T) {
	for _, n := range lengths {
		checkMake(t, equal(n, 3), []int{3}, equal(n, 0))
		for _, rise := range repeatingLists(n) {
			for _, l := range orders(rise) {
				checkDefinition(t, l)
			}
		}
		for k := 1; k <= n; k += 1 + n/10 {
			cycle := func(i int) int { return i % k }
			checkMake(t, fill(n, cycle), rising(k, 0, 1), fill(n, cycle))
			checkMake(t, fill(n, func(i int) int { return 5 - 2*cycle(i) }), rising(k, 7-2*k, 2),
				fill(n, func(i int) int { return k - 1 - cycle(i) }))
		}
	}
}

func TestMakeOfOneNumberTwice(t *testing.T) {
	for _, n := range []int{2, 3, 8, 65, api.MaxList} {
		for _, l := range orders(rising(n, -9, 3)) {
			for i := range n {
				checkDefinition(t, with(l, i, l[0]))
				checkDefinition(t, with(l, i, l[n-1]))
				checkDefinition(t, with(l, i, l[(i+1)%n]))
			}
		}
	}
}

func TestMakeOfTooManyNumbers(t *testing.T) {
	for _, n := range tooLong {
		for _, rise := range append(distinctLists(n), repeatingLists(n)...) {
			for _, l := range orders(rise) {
				checkNoMake(t, l)
			}
		}
	}
	checkNoMake(t, roomy(equal(api.MaxList+1, 1)))
	// The spare capacity of a list does not count.
	checkMake(t, equal(api.MaxList+1, 1)[:api.MaxList], []int{1}, equal(api.MaxList, 0))
}

func TestFind(t *testing.T) {
	checkFind(t, []int{3, 7}, 5, 1)
	checkFind(t, []int{-2, 5, 7}, 6, 2)
	for _, x := range probes {
		checkFind(t, nil, x, 0)
		checkFind(t, []int{}, x, 0)
		checkFind(t, roomy(nil), x, 0)
	}
	checkFind(t, []int{4}, 3, 0)
	checkFind(t, []int{4}, 4, 0)
	checkFind(t, []int{4}, 5, 1)
	for i, want := range []int{0, 0, 1, 1, 1, 2, 2, 2, 3} {
		checkFind(t, []int{-3, 0, 3}, i-4, want)
	}
}

func TestFindExtremes(t *testing.T) {
	ends := []int{math.MinInt, math.MaxInt}
	checkFind(t, ends, math.MinInt, 0)
	checkFind(t, ends, math.MinInt+1, 1)
	checkFind(t, ends, 0, 1)
	checkFind(t, ends, math.MaxInt, 1)
	checkFind(t, []int{math.MinInt}, math.MinInt, 0)
	checkFind(t, []int{math.MinInt}, math.MaxInt, 1)
	checkFind(t, []int{math.MaxInt}, math.MinInt, 0)
	checkFind(t, []int{math.MaxInt}, math.MaxInt, 0)
	checkFind(t, []int{-1, 0, 1}, math.MinInt, 0)
	checkFind(t, []int{-1, 0, 1}, math.MaxInt, 3)
	checkFind(t, extremes, math.MaxInt-1, 3)
}

// checkNear checks Find for each number of values, for those beside it and for the probes.
func checkNear(t *testing.T, values []int) {
	t.Helper()
	for i, x := range values {
		checkFind(t, values, x, i)
		if x > math.MinInt {
			checkFind(t, values, x-1, countBelow(values, x-1))
		}
		if x < math.MaxInt {
			checkFind(t, values, x+1, i+1)
		}
	}
	for _, x := range probes {
		checkFind(t, values, x, countBelow(values, x))
	}
}

func TestFindInLists(t *testing.T) {
	for _, n := range lengths {
		for _, values := range distinctLists(n) {
			checkNear(t, values)
		}
	}
	for n := range api.MaxList + 1 {
		checkNear(t, rising(n, -200, 3))
	}
}

func TestFindInEachSmallList(t *testing.T) {
	for _, digits := range [][]int{small, extremes} {
		eachList(digits, 5, func(l []int) {
			if !isIncreasing(l) {
				checkProbes(t, l, api.ErrForm)
				return
			}
			for _, x := range probes {
				checkFind(t, l, x, countBelow(l, x))
			}
		})
	}
}

func TestFindInValuesThatMakeReturns(t *testing.T) {
	for _, n := range lengths {
		for _, rise := range append(distinctLists(n), repeatingLists(n)...) {
			l := mixed(rise)
			values, places, _ := ranks.Make(l)
			for i, x := range l {
				checkFind(t, values, x, places[i])
			}
		}
	}
}

func TestFindInListsThatDoNotIncrease(t *testing.T) {
	checkProbes(t, []int{5, 5}, api.ErrForm)
	checkProbes(t, []int{7, 3}, api.ErrForm)
	checkProbes(t, []int{3, 1, 7, 9}, api.ErrForm)
	checkProbes(t, []int{1, 7, 3, 9}, api.ErrForm)
	checkProbes(t, []int{1, 3, 9, 7}, api.ErrForm)
	checkProbes(t, []int{1, 3, 5, 0}, api.ErrForm)
	checkProbes(t, []int{math.MaxInt, math.MinInt}, api.ErrForm)
	checkProbes(t, []int{math.MinInt, math.MinInt}, api.ErrForm)
	checkProbes(t, []int{math.MaxInt, math.MaxInt}, api.ErrForm)
	for _, n := range lengths[1:] {
		for _, l := range distinctLists(n) {
			checkProbes(t, falling(l), api.ErrForm)
		}
		for _, l := range repeatingLists(n) {
			if n > len(extremes) {
				checkProbes(t, l, api.ErrForm)
			}
			checkProbes(t, falling(l), api.ErrForm)
		}
	}
}

func TestFindInListsThatFallOnce(t *testing.T) {
	for _, i := range fallsAt {
		for _, l := range [][]int{rising(api.MaxList, -300, 2), wide(api.MaxList)} {
			checkProbes(t, with(l, i, l[i-1]), api.ErrForm)
			checkProbes(t, with(l, i-1, l[i]), api.ErrForm)
			checkProbes(t, with(l, i, math.MinInt), api.ErrForm)
			checkProbes(t, with(l, i-1, math.MaxInt), api.ErrForm)
			checkProbes(t, with(with(l, i, l[i-1]), i-1, l[i]), api.ErrForm)
			// Both parts rise, the second one from the start on.
			checkProbes(t, slices.Concat(l[:i], l[:api.MaxList-i]), api.ErrForm)
		}
	}
	for i := 1; i < api.MaxList; i++ {
		l := rising(api.MaxList, 0, 5)
		checkNoFind(t, with(l, i, l[i-1]), l[i], api.ErrForm)
		checkNoFind(t, with(l, i, l[i-1]-1), l[0], api.ErrForm)
		checkNoFind(t, with(l, i-1, l[i]+1), l[api.MaxList-1], api.ErrForm)
	}
}

func TestFindInTooManyValues(t *testing.T) {
	for _, n := range tooLong {
		for _, l := range distinctLists(n) {
			checkProbes(t, l, api.ErrSize)
		}
		// These do not increase either.
		for _, l := range [][]int{equal(n, 0), falling(rising(n, 0, 1)), falling(wide(n)), mixed(wide(n)),
			with(rising(n, 0, 1), 0, 1), with(rising(n, 0, 1), n/2, 0), with(rising(n, 0, 1), n-1, 0)} {
			checkProbes(t, l, api.ErrSize)
		}
	}
	checkProbes(t, roomy(rising(api.MaxList+1, 0, 1)), api.ErrSize)
	// The spare capacity of a list does not count, nor is it in order.
	checkNear(t, with(rising(api.MaxList+1, 0, 1), api.MaxList, -1)[:api.MaxList])
	checkNear(t, roomy(rising(3, 10, 1)))
}

// arguments returns lists with spare capacity: such that are their own values and ranks, other ones of different
// numbers, such that repeat numbers, lists without elements and one that is too long.
func arguments() [][]int {
	lists := [][]int{roomy(nil), roomy(rising(api.MaxList+1, 0, 1))}
	for _, n := range lengths {
		for _, rise := range append(distinctLists(n), repeatingLists(n)...) {
			for _, l := range orders(rise) {
				lists = append(lists, roomy(l))
			}
		}
	}
	return lists
}

func TestListsAreNotChanged(t *testing.T) {
	for _, l := range arguments() {
		whole := slices.Clone(l[:cap(l)])
		ranks.Make(l)
		if !slices.Equal(l[:cap(l)], whole) {
			t.Errorf("Make(%v) changed the list to %v", whole, l[:cap(l)])
		}
		copy(l[:cap(l)], whole)
		for _, x := range probes {
			ranks.Find(l, x)
		}
		if !slices.Equal(l[:cap(l)], whole) {
			t.Errorf("Find(%v) changed the list to %v", whole, l[:cap(l)])
		}
	}
}

func TestChangedResultsChangeNoArgument(t *testing.T) {
	for _, l := range arguments() {
		whole := slices.Clone(l[:cap(l)])
		values, places, _ := ranks.Make(l)
		stamp(values)
		if !slices.Equal(l[:cap(l)], whole) {
			t.Errorf("Make(%v): the list changed with the values", whole)
		}
		stamp(places)
		if !slices.Equal(l[:cap(l)], whole) {
			t.Errorf("Make(%v): the list changed with the ranks", whole)
		}
	}
}

func TestChangedArgumentsChangeNoResult(t *testing.T) {
	for _, l := range arguments() {
		values, places, _ := ranks.Make(l)
		wantValues, wantPlaces := slices.Clone(values), slices.Clone(places)
		stamp(l)
		if !slices.Equal(values, wantValues) || !slices.Equal(places, wantPlaces) {
			t.Errorf("the results %v and %v changed with the list", wantValues, wantPlaces)
		}
	}
}

func TestResultsAreApart(t *testing.T) {
	for _, l := range arguments() {
		values, places, _ := ranks.Make(l)
		otherValues, otherPlaces, _ := ranks.Make(l)
		wantValues, wantPlaces := slices.Clone(values), slices.Clone(places)
		stamp(values)
		if !slices.Equal(places, wantPlaces) {
			t.Errorf("Make(%v): the ranks changed with the values", l)
		}
		stamp(otherPlaces)
		if !slices.Equal(otherValues, wantValues) {
			t.Errorf("Make(%v): the values changed with the ranks", l)
		}
		stamp(otherValues)
		if !slices.Equal(places, wantPlaces) {
			t.Errorf("Make(%v): the ranks changed with the results of another call", l)
		}
		if len(l) <= api.MaxList {
			checkMake(t, l, wantValues, wantPlaces)
		}
	}
}

func TestSpareCapacitiesAreApart(t *testing.T) {
	for _, l := range arguments() {
		values, places, _ := ranks.Make(l)
		wholePlaces := slices.Clone(places[:cap(places)])
		stamp(values)
		if !slices.Equal(places[:cap(places)], wholePlaces) {
			t.Errorf("Make(%v): the spare capacity of the ranks changed with that of the values", l)
		}
		wholeValues := slices.Clone(values[:cap(values)])
		for i := range places[:cap(places)] {
			places[:cap(places)][i] = -88888
		}
		if !slices.Equal(values[:cap(values)], wholeValues) {
			t.Errorf("Make(%v): the spare capacity of the values changed with that of the ranks", l)
		}
	}
}
