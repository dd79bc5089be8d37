package rmq_test

import (
	"math"
	"slices"
	"testing"

	"damask/api"
	"damask/rmq"
)

var (
	// extremes are numbers that are no index of any list.
	extremes = []int{math.MinInt, math.MinInt + 1, -1 << 62, -1 << 32, -api.MaxList, -64, -2, -1, api.MaxList,
		api.MaxList + 1, 1 << 32, 1 << 62, math.MaxInt - 63, math.MaxInt}
	// lengths has each power of two up to MaxList, one less and one more.
	lengths = []int{1, 2, 3, 4, 5, 7, 8, 9, 15, 16, 17, 31, 32, 33, 63, 64, 65, 127, 128, 129, 255, 256, 257,
		api.MaxList - 1, api.MaxList}
)

// maximumPosition looks at every element of the range from a to b, which must not be empty.
func maximumPosition(l []int, a, b int) int {
	top := a
	for i := a; i <= b; i++ {
		if l[i] > l[top] {
			top = i
		}
	}
	return top
}

// tableOf returns the sparse table of l as the chapter describes it, range by range.
func tableOf(l []int) [][]int {
	var table [][]int
	for size := 1; size <= len(l); size *= 2 {
		var row []int
		for i := 0; i+size <= len(l); i++ {
			row = append(row, maximumPosition(l, i, i+size-1))
		}
		table = append(table, row)
	}
	return table
}

// treeOf returns the parents of all indices of l by the chapter's recursive description.
func treeOf(l []int) []int {
	parents := make([]int, len(l))
	var lay func(a, b, parent int)
	lay = func(a, b, parent int) {
		if a > b {
			return
		}
		top := maximumPosition(l, a, b)
		parents[top] = parent
		lay(a, top-1, top)
		lay(top+1, b, top)
	}
	lay(0, len(l)-1, -1)
	return parents
}

// commonAncestor returns the lowest common ancestor of i and j, and -1 if the parents lead to none within their number.
func commonAncestor(parents []int, i, j int) int {
	above := map[int]bool{}
	for k := i; k >= 0 && !above[k]; k = parents[k] {
		above[k] = true
	}
	for range parents {
		if above[j] {
			return j
		}
		if j = parents[j]; j < 0 {
			return -1
		}
	}
	return -1
}

func same(t, u [][]int) bool {
	return slices.EqualFunc(t, u, slices.Equal[[]int])
}

// clone returns t with rows of its own.
func clone(t [][]int) [][]int {
	c := slices.Clone(t)
	for k, row := range c {
		c[k] = slices.Clone(row)
	}
	return c
}

// changed returns a copy of t to which the change was applied.
func changed(t [][]int, change func(t [][]int)) [][]int {
	c := clone(t)
	change(c)
	return c
}

// fill returns the list of n numbers in which number i is f(i).
func fill(n int, f func(i int) int) []int {
	l := make([]int, n)
	for i := range l {
		l[i] = f(i)
	}
	return l
}

// mixed returns n fixed mixed numbers from 0 to most.
func mixed(n, most int) []int {
	state := uint64(1000*n + most)
	return fill(n, func(i int) int {
		state = state*6364136223846793005 + 1442695040888963407
		return int(state>>33) % (most + 1)
	})
}

// only returns a list of n numbers of which those that f picks are most, and the others are rest.
func only(n, most, rest int, f func(i int) bool) []int {
	return fill(n, func(i int) int {
		if f(i) {
			return most
		}
		return rest
	})
}

// shapes returns lists of n numbers: all equal, rising, falling, both in either order and with steps, a largest or
// smallest one at one place, equal largest ones at several places, the smallest and largest int, and mixed numbers.
func shapes(n int) [][]int {
	return [][]int{
		make([]int, n),
		fill(n, func(i int) int { return math.MinInt }),
		fill(n, func(i int) int { return math.MaxInt }),
		fill(n, func(i int) int { return i }),
		fill(n, func(i int) int { return -i }),
		fill(n, func(i int) int { return i / 3 }),
		fill(n, func(i int) int { return -i / 3 }),
		fill(n, func(i int) int { return min(i, n-1-i) }),
		fill(n, func(i int) int { return max(i, n-1-i) }),
		fill(n, func(i int) int { return math.MinInt + i }),
		fill(n, func(i int) int { return math.MaxInt - i }),
		only(n, 1, 0, func(i int) bool { return i == n/2 }),
		only(n, 1, 0, func(i int) bool { return i == 0 || i == n-1 }),
		only(n, math.MaxInt, math.MinInt, func(i int) bool { return i == n-1 }),
		only(n, math.MaxInt, math.MinInt, func(i int) bool { return i%5 == 2 }),
		only(n, math.MaxInt, math.MinInt, func(i int) bool { return i%2 == 0 }),
		only(n, -1, math.MinInt, func(i int) bool { return i%2 == 1 }),
		only(n, math.MaxInt, 0, func(i int) bool { return i%7 != 3 }),
		mixed(n, 2),
		mixed(n, 1<<30),
	}
}

// eachList calls f with the lists of all lengths and shapes, and with those without elements.
func eachList(f func(l []int)) {
	f(nil)
	f([]int{})
	for _, n := range lengths {
		for _, l := range shapes(n) {
			f(l)
		}
	}
}

// eachSmallList calls f with all lists of up to most numbers from 0 to 2.
func eachSmallList(most int, f func(l []int)) {
	count := 1
	for n := range most + 1 {
		for code := range count {
			f(fill(n, func(i int) int {
				digit := code % 3
				code /= 3
				return digit
			}))
		}
		count *= 3
	}
}

func checkMake(t *testing.T, l []int, want [][]int) {
	t.Helper()
	if table, err := rmq.Make(l); err != api.OK || !same(table, want) {
		t.Errorf("Make(%v) = %v, %d; want %v, 0", l, table, err, want)
	}
}

func checkTop(t *testing.T, l []int, table [][]int, a, b, want int) {
	t.Helper()
	if got, err := rmq.Top(l, table, a, b); err != api.OK || got != want {
		t.Errorf("Top(%v, %v, %d, %d) = %d, %d; want %d, 0", l, table, a, b, got, err, want)
	}
}

func checkNoTop(t *testing.T, l []int, table [][]int, a, b int, want api.Errno) {
	t.Helper()
	if got, err := rmq.Top(l, table, a, b); err != want || got != 0 {
		t.Errorf("Top(%v, %v, %d, %d) = %d, %d; want 0, %d", l, table, a, b, got, err, want)
	}
}

// checkNotTable checks that table is not taken as the one of l, whether the range is valid or not.
func checkNotTable(t *testing.T, l []int, table [][]int) {
	t.Helper()
	for _, r := range [][2]int{{0, 0}, {0, len(l) - 1}, {len(l) - 1, len(l) - 1}, {-1, 0}, {1, 0}, {0, len(l)}} {
		checkNoTop(t, l, table, r[0], r[1], api.ErrForm)
	}
}

func checkEachRange(t *testing.T, l []int) {
	t.Helper()
	table := tableOf(l)
	for b := range l {
		for a := range b + 1 {
			checkTop(t, l, table, a, b, maximumPosition(l, a, b))
		}
	}
}

func checkTree(t *testing.T, l, want []int) {
	t.Helper()
	if parents, err := rmq.Tree(l); err != api.OK || !slices.Equal(parents, want) {
		t.Errorf("Tree(%v) = %v, %d; want %v, 0", l, parents, err, want)
	}
}

func TestMake(t *testing.T) {
	checkMake(t, []int{3, 1}, [][]int{{0, 1}, {0}})
	checkMake(t, []int{1, 3}, [][]int{{0, 1}, {1}})
	checkMake(t, []int{3, 3}, [][]int{{0, 1}, {0}})
	checkMake(t, []int{3, 9, 2, 9, 5}, [][]int{{0, 1, 2, 3, 4}, {1, 1, 3, 3}, {1, 1}})
	checkMake(t, []int{3, 1, 4}, [][]int{{0, 1, 2}, {0, 2}})
	checkMake(t, []int{1, 2, 2, 1}, [][]int{{0, 1, 2, 3}, {1, 1, 2}, {1}})
	checkMake(t, []int{math.MinInt, math.MaxInt, math.MinInt}, [][]int{{0, 1, 2}, {1, 1}})
	for _, x := range []int{0, 1, -1, math.MinInt, math.MaxInt} {
		checkMake(t, []int{x}, [][]int{{0}})
	}
}

func TestMakeWithoutElements(t *testing.T) {
	checkMake(t, nil, nil)
	checkMake(t, []int{}, nil)
}

func TestMakeOfEachList(t *testing.T) {
	eachList(func(l []int) { checkMake(t, l, tableOf(l)) })
	eachSmallList(8, func(l []int) { checkMake(t, l, tableOf(l)) })
}

func TestNumberOfRows(t *testing.T) {
	for n, want := range map[int]int{0: 0, 1: 1, 2: 2, 3: 2, 4: 3, 7: 3, 8: 4, 255: 8, 256: 9, api.MaxList: 9} {
		table, err := rmq.Make(make([]int, n))
		if err != api.OK || len(table) != want {
			t.Errorf("Make of %d numbers: %d rows, %d; want %d rows", n, len(table), err, want)
			continue
		}
		for k, row := range table {
			if len(row) != n-1<<k+1 {
				t.Errorf("Make of %d numbers: row %d has %d elements; want %d", n, k, len(row), n-1<<k+1)
			}
		}
	}
}

func TestMakeTooLong(t *testing.T) {
	for _, n := range []int{api.MaxList + 1, api.MaxList + 2, 512, 1 << 16} {
		for _, l := range [][]int{make([]int, n), mixed(n, 1000)} {
			if table, err := rmq.Make(l); err != api.ErrSize || len(table) != 0 {
				t.Errorf("Make of %d numbers: %d rows, %d; want no rows, %d", n, len(table), err, api.ErrSize)
			}
		}
	}
}

func TestTop(t *testing.T) {
	l := []int{3, 1, 4}
	table := [][]int{{0, 1, 2}, {0, 2}}
	checkTop(t, l, table, 0, 1, 0)
	checkTop(t, l, table, 0, 2, 2)
	checkTop(t, l, table, 1, 1, 1)
	checkTop(t, l, table, 1, 2, 2)
	l = []int{3, 9, 2, 9, 5}
	table = [][]int{{0, 1, 2, 3, 4}, {1, 1, 3, 3}, {1, 1}}
	checkTop(t, l, table, 0, 4, 1)
	checkTop(t, l, table, 1, 3, 1)
	checkTop(t, l, table, 2, 4, 3)
	checkTop(t, l, table, 2, 2, 2)
	checkTop(t, []int{math.MinInt}, [][]int{{0}}, 0, 0, 0)
}

func TestTopOfEachRange(t *testing.T) {
	eachSmallList(7, func(l []int) { checkEachRange(t, l) })
	for _, n := range lengths {
		if n > 33 {
			break
		}
		for _, l := range shapes(n) {
			checkEachRange(t, l)
		}
	}
	checkEachRange(t, mixed(api.MaxList, 2))
	checkEachRange(t, mixed(api.MaxList, 1000))
}

func TestTopOfSomeRanges(t *testing.T) {
	// The ranges start or end at an end of the list or near its middle; their lengths are powers of two, one less and
	// one more.
	eachList(func(l []int) {
		table := tableOf(l)
		for _, count := range append([]int{len(l)}, lengths...) {
			for _, a := range []int{0, 1, (len(l) - count) / 2, len(l) - count - 1, len(l) - count} {
				if b := a + count - 1; a >= 0 && a <= b && b < len(l) {
					checkTop(t, l, table, a, b, maximumPosition(l, a, b))
				}
			}
		}
	})
}

func TestTopTakesTheTableOfMake(t *testing.T) {
	eachList(func(l []int) {
		table, _ := rmq.Make(l)
		if len(l) > 0 {
			checkTop(t, l, table, 0, len(l)-1, maximumPosition(l, 0, len(l)-1))
			checkTop(t, l, table, len(l)/2, len(l)-1, maximumPosition(l, len(l)/2, len(l)-1))
		}
	})
}

func TestTopTakesAnotherListsTable(t *testing.T) {
	// The maximum positions of both lists are the same ones.
	checkTop(t, []int{30, 10, 40}, tableOf([]int{3, 1, 4}), 0, 2, 2)
	checkTop(t, []int{5, 5, 5}, tableOf([]int{3, 2, 1}), 1, 2, 1)
}

func TestTopRange(t *testing.T) {
	eachList(func(l []int) {
		table, n := tableOf(l), len(l)
		checkNoTop(t, l, table, -1, 0, api.ErrRange)
		checkNoTop(t, l, table, -1, -1, api.ErrRange)
		checkNoTop(t, l, table, -1, n-1, api.ErrRange)
		checkNoTop(t, l, table, 0, -1, api.ErrRange)
		checkNoTop(t, l, table, 1, 0, api.ErrRange)
		checkNoTop(t, l, table, n-1, n-2, api.ErrRange)
		checkNoTop(t, l, table, n, n-1, api.ErrRange)
		checkNoTop(t, l, table, 0, n, api.ErrRange)
		checkNoTop(t, l, table, n-1, n, api.ErrRange)
		checkNoTop(t, l, table, n, n, api.ErrRange)
		checkNoTop(t, l, table, n+1, n+1, api.ErrRange)
	})
}

func TestTopRangeAtExtremes(t *testing.T) {
	for _, l := range [][]int{nil, {}, {7}, {3, 1, 4}, mixed(256, 1000), mixed(api.MaxList, 1000)} {
		table := tableOf(l)
		for _, x := range extremes {
			checkNoTop(t, l, table, x, 0, api.ErrRange)
			checkNoTop(t, l, table, 0, x, api.ErrRange)
			checkNoTop(t, l, table, x, len(l)-1, api.ErrRange)
			checkNoTop(t, l, table, len(l)-1, x, api.ErrRange)
			for _, y := range extremes {
				checkNoTop(t, l, table, x, y, api.ErrRange)
			}
		}
	}
}

func TestTopWithoutElements(t *testing.T) {
	for _, l := range [][]int{nil, {}} {
		for _, table := range [][][]int{nil, {}} {
			checkNoTop(t, l, table, 0, 0, api.ErrRange)
			checkNoTop(t, l, table, 0, -1, api.ErrRange)
			checkNoTop(t, l, table, -1, -1, api.ErrRange)
		}
		for _, table := range [][][]int{{nil}, {{}}, {{0}}, {{}, {}}, {{-1}}, {{0, 1}, {0}}} {
			checkNotTable(t, l, table)
		}
	}
}

func TestTopNumberOfRows(t *testing.T) {
	eachList(func(l []int) {
		table := tableOf(l)
		for _, row := range [][]int{nil, {}, {0}, indicesOf(l), {-1}} {
			checkNotTable(t, l, append(slices.Clone(table), row))
			checkNotTable(t, l, append([][]int{row}, table...))
		}
		if len(l) > 0 {
			checkNotTable(t, l, nil)
			checkNotTable(t, l, [][]int{})
			checkNotTable(t, l, table[:len(table)-1])
			checkNotTable(t, l, table[1:])
		}
	})
	checkNotTable(t, []int{1, 2}, make([][]int, 1<<20))
}

// indicesOf returns the row of all indices of l.
func indicesOf(l []int) []int {
	return fill(len(l), func(i int) int { return i })
}

func TestTopLengthOfRows(t *testing.T) {
	eachList(func(l []int) {
		table := tableOf(l)
		for k, row := range table {
			last := row[len(row)-1]
			for _, x := range []int{0, last, len(l) - 1, len(row), -1} {
				checkNotTable(t, l, changed(table, func(t [][]int) { t[k] = append(t[k], x) }))
			}
			checkNotTable(t, l, changed(table, func(t [][]int) { t[k] = t[k][:len(row)-1] }))
			checkNotTable(t, l, changed(table, func(t [][]int) { t[k] = t[k][1:] }))
			checkNotTable(t, l, changed(table, func(t [][]int) { t[k] = nil }))
			checkNotTable(t, l, changed(table, func(t [][]int) { t[k] = []int{} }))
		}
	})
}

func TestTopRowsInAnotherOrder(t *testing.T) {
	for _, n := range []int{2, 3, 9, 64, api.MaxList} {
		l := mixed(n, 1000)
		table := tableOf(l)
		for k := 1; k < len(table); k++ {
			checkNotTable(t, l, changed(table, func(t [][]int) { t[k-1], t[k] = t[k], t[k-1] }))
			checkNotTable(t, l, changed(table, func(t [][]int) { t[k] = t[k-1] }))
		}
	}
}

func TestTopWithOneElementChanged(t *testing.T) {
	for _, n := range []int{1, 2, 3, 4, 5, 8, 9} {
		for _, l := range shapes(n) {
			places := append(fill(n+4, func(i int) int { return i - 2 }), extremes...)
			checkEachChange(t, l, places)
		}
	}
	checkEachChange(t, mixed(api.MaxList, 3), []int{-1, 0, api.MaxList - 1, api.MaxList})
}

// checkEachChange changes each element of the table of l to each of the places.
func checkEachChange(t *testing.T, l, places []int) {
	t.Helper()
	table := tableOf(l)
	for _, row := range table {
		for i, right := range row {
			for _, place := range places {
				if place != right {
					row[i] = place
					checkNoTop(t, l, table, 0, 0, api.ErrForm)
					checkNoTop(t, l, table, -1, 0, api.ErrForm)
				}
			}
			row[i] = right
		}
	}
}

func TestTopWithALaterEqualNumber(t *testing.T) {
	checkNotTable(t, []int{3, 3}, [][]int{{0, 1}, {1}})
	checkNotTable(t, []int{3, 9, 2, 9, 5}, [][]int{{0, 1, 2, 3, 4}, {1, 1, 3, 3}, {1, 3}})
	checkNotTable(t, []int{3, 9, 2, 9, 5}, [][]int{{0, 1, 2, 3, 4}, {1, 1, 3, 3}, {3, 1}})
	l := make([]int, api.MaxList)
	table := tableOf(l)
	for k := 1; k < len(table); k++ {
		for i := range table[k] {
			table[k][i]++
			checkNoTop(t, l, table, 0, 0, api.ErrForm)
			table[k][i]--
		}
	}
}

func TestTopWithTheTableOfAnotherList(t *testing.T) {
	checkNotTable(t, []int{3, 1}, tableOf([]int{1, 3}))
	checkNotTable(t, []int{3, 1}, tableOf([]int{3, 1, 0}))
	checkNotTable(t, []int{3, 1, 0}, tableOf([]int{3, 1}))
	for _, n := range lengths[1:] {
		rising, falling := fill(n, func(i int) int { return i }), fill(n, func(i int) int { return -i })
		checkNotTable(t, rising, tableOf(falling))
		checkNotTable(t, falling, tableOf(rising))
		checkNotTable(t, rising, tableOf(rising[1:]))
		checkNotTable(t, rising[1:], tableOf(rising))
	}
}

func TestTopTooLong(t *testing.T) {
	l := mixed(api.MaxList+1, 1000)
	for _, table := range [][][]int{nil, {}, tableOf(l), tableOf(l[1:]), tableOf(l[:1]), {nil}, {{}}} {
		checkNotTable(t, l, table)
		for _, x := range extremes {
			checkNoTop(t, l, table, x, x, api.ErrForm)
		}
	}
}

func TestTopFormBeforeRange(t *testing.T) {
	l := []int{3, 1, 4}
	for _, table := range [][][]int{nil, {{0, 1, 2}}, {{0, 1, 2}, {0, 1}}, {{0, 1, 2}, {0, 2}, nil}} {
		for _, x := range extremes {
			checkNoTop(t, l, table, x, 0, api.ErrForm)
			checkNoTop(t, l, table, 0, x, api.ErrForm)
			checkNoTop(t, l, table, x, x, api.ErrForm)
		}
		checkNoTop(t, l, table, 2, 1, api.ErrForm)
		checkNoTop(t, l, table, 3, 3, api.ErrForm)
	}
}

func TestTree(t *testing.T) {
	checkTree(t, []int{1, 3, 2}, []int{1, -1, 1})
	checkTree(t, []int{3, 9, 2, 9, 5}, []int{1, -1, 3, 1, 3})
	checkTree(t, []int{5}, []int{-1})
	checkTree(t, []int{math.MinInt}, []int{-1})
	checkTree(t, []int{1, 2}, []int{1, -1})
	checkTree(t, []int{2, 1}, []int{-1, 0})
	checkTree(t, []int{2, 2}, []int{-1, 0})
	checkTree(t, []int{1, 2, 3}, []int{1, 2, -1})
	checkTree(t, []int{3, 2, 1}, []int{-1, 0, 1})
	checkTree(t, []int{7, 7, 7}, []int{-1, 0, 1})
	checkTree(t, []int{3, 1, 2, 4}, []int{3, 2, 0, -1})
	checkTree(t, []int{math.MaxInt, math.MinInt, math.MaxInt}, []int{-1, 2, 0})
}

func TestTreeWithoutElements(t *testing.T) {
	checkTree(t, nil, nil)
	checkTree(t, []int{}, nil)
}

func TestTreeOfEachList(t *testing.T) {
	eachList(func(l []int) { checkTree(t, l, treeOf(l)) })
	eachSmallList(9, func(l []int) { checkTree(t, l, treeOf(l)) })
}

func TestTreeTooLong(t *testing.T) {
	for _, n := range []int{api.MaxList + 1, api.MaxList + 2, 512, 1 << 16} {
		for _, l := range [][]int{make([]int, n), mixed(n, 1000)} {
			if parents, err := rmq.Tree(l); err != api.ErrSize || len(parents) != 0 {
				t.Errorf("Tree of %d numbers: %d parents, %d; want none, %d", n, len(parents), err, api.ErrSize)
			}
		}
	}
}

func TestTopIsTheCommonAncestor(t *testing.T) {
	check := func(l []int) {
		table, _ := rmq.Make(l)
		parents, _ := rmq.Tree(l)
		if len(parents) != len(l) {
			t.Fatalf("Tree(%v) has %d parents", l, len(parents))
		}
		for b := range l {
			for a := range b + 1 {
				checkTop(t, l, table, a, b, commonAncestor(parents, a, b))
			}
		}
	}
	eachSmallList(5, check)
	for _, n := range []int{8, 17, 40} {
		for _, l := range shapes(n) {
			check(l)
		}
	}
}

func TestListsAreNotChanged(t *testing.T) {
	whole := mixed(api.MaxList+20, 50)
	before := slices.Clone(whole)
	l := whole[:100]
	table, _ := rmq.Make(l)
	parents, _ := rmq.Tree(l)
	checkTop(t, l, table, 10, 90, maximumPosition(before, 10, 90))
	for _, call := range []func(){
		func() { rmq.Make(whole) },
		func() { rmq.Tree(whole) },
		func() { rmq.Top(whole, table, 0, 0) },
		func() { rmq.Top(l, nil, 0, 0) },
		func() { rmq.Top(l, table, 0, 100) },
	} {
		call()
	}
	if !slices.Equal(whole, before) {
		t.Errorf("the list changed: %v; want %v", whole, before)
	}
	clear(whole)
	if !same(table, tableOf(before[:100])) || !slices.Equal(parents, treeOf(before[:100])) {
		t.Errorf("a table or tree changed with its list: %v and %v", table, parents)
	}
}

func TestTablesAreNotChanged(t *testing.T) {
	// The spare capacity of the table and of its rows has other numbers, which neither count nor change.
	l := mixed(20, 5)
	whole := append(tableOf(l), []int{1, 2}, []int{3})
	for k, row := range whole {
		whole[k] = append(row, -7, 100)
	}
	before := clone(whole)
	table := slices.Clone(whole)
	for k := range table {
		table[k] = whole[k][:len(whole[k])-2]
	}
	rows := slices.Clone(table)
	checkTop(t, l, table[:5], 3, 17, maximumPosition(l, 3, 17))
	checkNoTop(t, l, table[:5], 3, 20, api.ErrRange)
	checkNoTop(t, l, table, 3, 17, api.ErrForm)
	checkNoTop(t, l[1:], table[:5], 3, 17, api.ErrForm)
	if !same(whole, before) || !same(table, rows) {
		t.Errorf("the table changed: %v; want %v", whole, before)
	}
}

func TestResultsAreApart(t *testing.T) {
	for _, n := range []int{1, 2, 16, 17, api.MaxList} {
		l := mixed(n, 9)
		first, _ := rmq.Make(l)
		second, _ := rmq.Make(l)
		tree, _ := rmq.Tree(l)
		otherTree, _ := rmq.Tree(l)
		lists := append(slices.Concat(first, second), tree, otherTree, l)
		for mark, list := range lists {
			stamp(list, mark)
		}
		for mark, list := range lists {
			if slices.ContainsFunc(list[:cap(list)], func(x int) bool { return x != mark }) {
				t.Errorf("of %d numbers: list %d of the results shares memory with a later one", n, mark)
			}
		}
	}
}

// stamp sets each number of l, also in its spare capacity, to mark.
func stamp(l []int, mark int) {
	spare := l[:cap(l)]
	for i := range spare {
		spare[i] = mark
	}
}
