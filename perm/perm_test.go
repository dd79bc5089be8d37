package perm_test

import (
	"math"
	"slices"
	"testing"

	"damask/api"
	"damask/perm"
)

// mostRanked is the largest number of elements of a permutation that has a rank.
const mostRanked = 20

var (
	// extremes are numbers that are no element of any permutation.
	extremes = []int{math.MinInt, math.MinInt + 1, -1 << 62, -1 << 32, -api.MaxList, -64, -2, -1, api.MaxList,
		api.MaxList + 1, 1 << 32, 1 << 62, math.MaxInt - 1, math.MaxInt}
	// lengths are numbers of elements of permutations, those around mostRanked and MaxList among them.
	lengths = []int{1, 2, 3, 4, 5, 6, 7, 8, 15, 16, 19, 20, 21, 22, 63, 64, 65, 127, 128, 129, 255, 256, 257,
		api.MaxList - 1, api.MaxList}
	// tooLong are numbers of elements of lists that are no permutations because of their length.
	tooLong = []int{api.MaxList + 1, api.MaxList + 2, 512, 1 << 16}
)

// isPermutation reports whether each number from 0 to len(p) - 1 occurs exactly once in p, looking for one after the
// other.
func isPermutation(p []int) bool {
	for x := range len(p) {
		count := 0
		for _, y := range p {
			if y == x {
				count++
			}
		}
		if count != 1 {
			return false
		}
	}
	return true
}

// inverseOf looks for the index of each number in p.
func inverseOf(p []int) []int {
	return fill(len(p), func(i int) int { return slices.Index(p, i) })
}

// compose returns the list whose element with index i is q[p[i]].
func compose(p, q []int) []int {
	return fill(len(p), func(i int) int { return q[p[i]] })
}

// cycleOf follows the numbers of p from first on until first comes again.
func cycleOf(p []int, first int) []int {
	cycle := []int{first}
	for x := p[first]; x != first; x = p[x] {
		cycle = append(cycle, x)
	}
	return cycle
}

// cyclesOf returns those of the cycles from each number of p on that start with their smallest number.
func cyclesOf(p []int) [][]int {
	var cycles [][]int
	for first := range p {
		if cycle := cycleOf(p, first); slices.Min(cycle) == first {
			cycles = append(cycles, cycle)
		}
	}
	return cycles
}

// inversions counts the pairs of indices i < j with p[i] > p[j].
func inversions(p []int) int {
	count := 0
	for j := range p {
		for i := range j {
			if p[i] > p[j] {
				count++
			}
		}
	}
	return count
}

// factorials[n] is the number of permutations of n elements.
var factorials = []int{1, 1, 2, 6, 24, 120, 720, 5040, 40320, 362880, 3628800, 39916800, 479001600, 6227020800,
	87178291200, 1307674368000, 20922789888000, 355687428096000, 6402373705728000, 121645100408832000,
	2432902008176640000}

// ordered returns all permutations of n elements in lexicographic order, as they come of the numbers in order.
func ordered(n int) [][]int {
	var all [][]int
	var extend func(start []int)
	extend = func(start []int) {
		if len(start) == n {
			all = append(all, slices.Clone(start))
			return
		}
		for x := range n {
			if !slices.Contains(start, x) {
				extend(append(start, x))
			}
		}
	}
	extend(make([]int, 0, n))
	return all
}

// rankOf counts the permutations before p by where they first differ from it: there they have a smaller number that p
// does not have earlier.
func rankOf(p []int) int {
	rank := 0
	for i := range p {
		for x := range p[i] {
			if !slices.Contains(p[:i], x) {
				rank += factorials[len(p)-1-i]
			}
		}
	}
	return rank
}

// successor returns the permutation behind p in lexicographic order, and whether there is one.
func successor(p []int) ([]int, bool) {
	next := slices.Clone(p)
	i := len(p) - 2
	for i >= 0 && p[i] > p[i+1] {
		i--
	}
	if i < 0 {
		return nil, false
	}
	j := len(p) - 1
	for p[j] < p[i] {
		j--
	}
	next[i], next[j] = p[j], p[i]
	slices.Reverse(next[i+1:])
	return next, true
}

// fill returns the list of n numbers in which number i is f(i).
func fill(n int, f func(i int) int) []int {
	l := make([]int, n)
	for i := range l {
		l[i] = f(i)
	}
	return l
}

// with returns a copy of l in which number i is x.
func with(l []int, i, x int) []int {
	c := slices.Clone(l)
	c[i] = x
	return c
}

func identity(n int) []int {
	return fill(n, func(i int) int { return i })
}

func reversal(n int) []int {
	return fill(n, func(i int) int { return n - 1 - i })
}

// rotation returns the permutation of n elements in which number i is i + by, or less by n.
func rotation(n, by int) []int {
	return fill(n, func(i int) int { return (i + by) % n })
}

// exchange returns the permutation of n elements that exchanges i and j alone.
func exchange(n, i, j int) []int {
	return with(with(identity(n), i, j), j, i)
}

// mixer returns a function that returns fixed mixed words, the same ones for the same seed. The lower bits of the words
// follow short rules.
func mixer(seed int) func() uint64 {
	state := uint64(seed)
	return func() uint64 {
		state = state*6364136223846793005 + 1442695040888963407
		return state
	}
}

// mixed returns a fixed mixed permutation of n elements.
func mixed(n, seed int) []int {
	word := mixer(1000*n + seed)
	p := identity(n)
	for i := range p {
		j := int(word()>>33) % (i + 1)
		p[i], p[j] = p[j], p[i]
	}
	return p
}

// withCycles returns the permutation that has cycles of consecutive numbers with these sizes.
func withCycles(sizes ...int) []int {
	var p []int
	for _, size := range sizes {
		first := len(p)
		for _, x := range rotation(size, 1) {
			p = append(p, first+x)
		}
	}
	return p
}

// growing returns the sizes 1, 2, 3 and so on with the sum n; the last one may be smaller.
func growing(n int) []int {
	var sizes []int
	for size := 1; n > 0; size++ {
		sizes = append(sizes, min(size, n))
		n -= min(size, n)
	}
	return sizes
}

// renamed returns p with its numbers renamed: the cycles have the same sizes, but not the same numbers.
func renamed(p []int) []int {
	names := mixed(len(p), 9)
	return compose(compose(inverseOf(names), p), names)
}

// shapes returns permutations of n elements, at least one: the identity, the reversal, exchanges, rotations, one cycle
// of all numbers, cycles of one size and of different ones, and mixed ones.
func shapes(n int) [][]int {
	growth := withCycles(growing(n)...)
	return [][]int{
		identity(n),
		reversal(n),
		exchange(n, 0, n-1),
		exchange(n, 0, min(1, n-1)),
		exchange(n, n/2, n-1),
		exchange(n, n/3, n/2),
		rotation(n, 1),
		rotation(n, n-1),
		rotation(n, n/2),
		renamed(rotation(n, 1)),
		withCycles(append(slices.Repeat([]int{2}, n/2), n%2)...),
		withCycles(append(slices.Repeat([]int{3}, n/3), n%3)...),
		withCycles(1, n-1),
		withCycles(n-1, 1),
		growth,
		inverseOf(growth),
		renamed(growth),
		mixed(n, 1),
		mixed(n, 2),
		mixed(n, 3),
	}
}

// eachPermutation calls f with the permutations without elements, with all of a few elements and with the shapes of all
// lengths.
func eachPermutation(f func(p []int)) {
	f(nil)
	f([]int{})
	f(make([]int, 0, 5))
	for n := 1; n <= 7; n++ {
		for _, p := range ordered(n) {
			f(p)
		}
	}
	for _, n := range lengths {
		for _, p := range shapes(n) {
			f(p)
		}
	}
}

// notForm returns lists of n numbers, at least one, that are no permutations: one number is too small, too large or
// another one's, or all of them are.
func notForm(n int) [][]int {
	var lists [][]int
	for _, p := range [][]int{identity(n), reversal(n), mixed(n, 4)} {
		for _, i := range []int{0, n / 2, n - 1} {
			for _, x := range append([]int{-1, -n, n, n + 1, 2 * n, p[i] - n, p[i] + n, -1 - p[i]}, extremes...) {
				if x < 0 || x >= n {
					lists = append(lists, with(p, i, x))
				}
			}
			for _, j := range []int{0, n / 3, n - 1} {
				if i != j {
					lists = append(lists, with(p, i, p[j]))
				}
			}
		}
		lists = append(lists, fill(n, func(i int) int { return p[i] + 1 }), fill(n, func(i int) int { return p[i] - 1 }))
	}
	for _, x := range extremes {
		if x < 0 || x >= n {
			lists = append(lists, fill(n, func(i int) int { return x }))
		}
	}
	if n > 1 {
		lists = append(lists, make([]int, n), fill(n, func(i int) int { return n - 1 }),
			fill(n, func(i int) int { return i / 2 }), fill(n, func(i int) int { return i / 2 * 2 }))
	}
	return lists
}

// sameLists reports whether a and b have the same lists.
func sameLists(a, b [][]int) bool {
	return slices.EqualFunc(a, b, slices.Equal[[]int])
}

// stamp sets each element of l, also in its spare capacity, to a number that is in no list.
func stamp(l []int) {
	spare := l[:cap(l)]
	for i := range spare {
		spare[i] = -77
	}
}

func checkInverse(t *testing.T, p, want []int) {
	t.Helper()
	if got, err := perm.Inverse(p); err != api.OK || !slices.Equal(got, want) {
		t.Errorf("Inverse(%v) = %v, %d; want %v, 0", p, got, err, want)
	}
}

func checkThen(t *testing.T, p, q, want []int) {
	t.Helper()
	if got, err := perm.Then(p, q); err != api.OK || !slices.Equal(got, want) {
		t.Errorf("Then(%v, %v) = %v, %d; want %v, 0", p, q, got, err, want)
	}
}

func checkNoThen(t *testing.T, p, q []int, want api.Errno) {
	t.Helper()
	if got, err := perm.Then(p, q); err != want || len(got) != 0 {
		t.Errorf("Then(%v, %v) = %v, %d; want [], %d", p, q, got, err, want)
	}
}

func checkCycles(t *testing.T, p []int, want [][]int) {
	t.Helper()
	if got, err := perm.Cycles(p); err != api.OK || !sameLists(got, want) {
		t.Errorf("Cycles(%v) = %v, %d; want %v, 0", p, got, err, want)
	}
}

func checkSwaps(t *testing.T, p []int, want int) {
	t.Helper()
	if got, err := perm.Swaps(p); err != api.OK || got != want {
		t.Errorf("Swaps(%v) = %d, %d; want %d, 0", p, got, err, want)
	}
}

func checkNumber(t *testing.T, p []int, want int) {
	t.Helper()
	if got, err := perm.Number(p); err != api.OK || got != want {
		t.Errorf("Number(%v) = %d, %d; want %d, 0", p, got, err, want)
	}
}

func checkNoNumber(t *testing.T, p []int, want api.Errno) {
	t.Helper()
	if got, err := perm.Number(p); err != want || got != 0 {
		t.Errorf("Number(%v) = %d, %d; want 0, %d", p, got, err, want)
	}
}

func checkOrder(t *testing.T, n, number int, want []int) {
	t.Helper()
	if got, err := perm.Order(n, number); err != api.OK || !slices.Equal(got, want) {
		t.Errorf("Order(%d, %d) = %v, %d; want %v, 0", n, number, got, err, want)
	}
}

func checkNoOrder(t *testing.T, n, number int) {
	t.Helper()
	if got, err := perm.Order(n, number); err != api.ErrRange || len(got) != 0 {
		t.Errorf("Order(%d, %d) = %v, %d; want [], %d", n, number, got, err, api.ErrRange)
	}
}

// checkRank checks both Number and Order.
func checkRank(t *testing.T, p []int, rank int) {
	t.Helper()
	checkNumber(t, p, rank)
	checkOrder(t, len(p), rank, p)
}

// checkCheck checks Check, and that all functions of one permutation yield the error that it is to yield.
func checkCheck(t *testing.T, p []int, want api.Errno) {
	t.Helper()
	if err := perm.Check(p); err != want {
		t.Errorf("Check(%v) = %d; want %d", p, err, want)
	}
	if want == api.OK {
		return
	}
	if got, err := perm.Inverse(p); err != want || len(got) != 0 {
		t.Errorf("Inverse(%v) = %v, %d; want [], %d", p, got, err, want)
	}
	if got, err := perm.Cycles(p); err != want || len(got) != 0 {
		t.Errorf("Cycles(%v) = %v, %d; want [], %d", p, got, err, want)
	}
	if got, err := perm.Swaps(p); err != want || got != 0 {
		t.Errorf("Swaps(%v) = %d, %d; want 0, %d", p, got, err, want)
	}
	checkNoNumber(t, p, want)
	checkNoThen(t, p, p, want)
}

func TestCheck(t *testing.T) {
	checkCheck(t, []int{0, 2}, api.ErrForm)
	checkCheck(t, []int{1, 0}, api.OK)
	checkCheck(t, []int{0}, api.OK)
	checkCheck(t, []int{1}, api.ErrForm)
	checkCheck(t, []int{0, 0}, api.ErrForm)
	checkCheck(t, []int{1, 2, 3}, api.ErrForm)
	checkCheck(t, []int{0, 1, -1}, api.ErrForm)
	checkCheck(t, []int{2, 0, 1, 4, 3}, api.OK)
	checkCheck(t, nil, api.OK)
	checkCheck(t, []int{}, api.OK)
}

func TestCheckEachPermutation(t *testing.T) {
	eachPermutation(func(p []int) { checkCheck(t, p, api.OK) })
	for n := range api.MaxList + 1 {
		checkCheck(t, mixed(n, 5), api.OK)
	}
}

func TestCheckEachSmallList(t *testing.T) {
	// Every list of up to five numbers from -1 to 5.
	count := 1
	for n := range 6 {
		for code := range count {
			l := fill(n, func(i int) int {
				x := code%7 - 1
				code /= 7
				return x
			})
			want := api.OK
			if !isPermutation(l) {
				want = api.ErrForm
			}
			checkCheck(t, l, want)
		}
		count *= 7
	}
}

func TestNotForm(t *testing.T) {
	for _, n := range lengths {
		for _, l := range notForm(n) {
			checkCheck(t, l, api.ErrForm)
		}
	}
}

func TestEachNumberTwice(t *testing.T) {
	for _, n := range []int{2, 20, 21, 65, api.MaxList} {
		p := mixed(n, 6)
		for i := range n {
			checkCheck(t, with(p, i, p[(i+1)%n]), api.ErrForm)
			checkCheck(t, with(p, i, p[(i+n/2)%n]), api.ErrForm)
		}
	}
}

func TestTooLong(t *testing.T) {
	for _, n := range tooLong {
		for _, p := range [][]int{identity(n), reversal(n), make([]int, n), with(identity(n), 0, -1),
			with(identity(n), n-1, n), with(identity(n), n/2, math.MaxInt), with(identity(n), 0, math.MinInt)} {
			checkCheck(t, p, api.ErrSize)
		}
	}
}

func TestInverse(t *testing.T) {
	checkInverse(t, []int{1, 2, 0}, []int{2, 0, 1})
	checkInverse(t, []int{2, 0, 1, 4, 3}, []int{1, 2, 0, 4, 3})
	checkInverse(t, []int{3, 0, 2, 1}, []int{1, 3, 2, 0})
	checkInverse(t, []int{0}, []int{0})
	checkInverse(t, nil, nil)
	checkInverse(t, []int{}, nil)
	for _, n := range lengths {
		checkInverse(t, identity(n), identity(n))
		checkInverse(t, reversal(n), reversal(n))
		checkInverse(t, exchange(n, 0, n-1), exchange(n, 0, n-1))
		checkInverse(t, rotation(n, 1), rotation(n, n-1))
	}
}

func TestInverseOfEachPermutation(t *testing.T) {
	eachPermutation(func(p []int) {
		inverse := inverseOf(p)
		checkInverse(t, p, inverse)
		checkInverse(t, inverse, p)
		checkThen(t, p, inverse, identity(len(p)))
		checkThen(t, inverse, p, identity(len(p)))
	})
}

func TestThen(t *testing.T) {
	checkThen(t, []int{1, 0}, []int{1, 0}, []int{0, 1})
	checkThen(t, []int{1, 2, 0}, []int{1, 0, 2}, []int{0, 2, 1})
	checkThen(t, []int{1, 0, 2}, []int{1, 2, 0}, []int{2, 1, 0})
	checkThen(t, []int{2, 0, 1, 4, 3}, []int{2, 0, 1, 4, 3}, []int{1, 2, 0, 3, 4})
	checkThen(t, []int{0}, []int{0}, []int{0})
	checkThen(t, nil, nil, nil)
	checkThen(t, []int{}, nil, nil)
	checkThen(t, nil, []int{}, nil)
	for _, n := range lengths {
		checkThen(t, rotation(n, 1), rotation(n, n-1), identity(n))
		checkThen(t, rotation(n, 1), rotation(n, n/2), rotation(n, n/2+1))
		checkThen(t, reversal(n), reversal(n), identity(n))
	}
}

func TestThenOfEachTwoPermutations(t *testing.T) {
	for n := range 6 {
		all := ordered(n)
		for _, p := range all {
			for _, q := range all {
				checkThen(t, p, q, compose(p, q))
			}
		}
	}
	for _, n := range lengths {
		for _, p := range shapes(n) {
			for _, q := range shapes(n) {
				checkThen(t, p, q, compose(p, q))
			}
		}
	}
}

func TestThenOfDifferentLengths(t *testing.T) {
	all := append([]int{0}, lengths...)
	for _, n := range all {
		for _, m := range all {
			if n != m {
				checkNoThen(t, mixed(n, 1), mixed(m, 1), api.ErrSize)
				checkNoThen(t, identity(n), identity(m), api.ErrSize)
			}
		}
	}
	for _, empty := range [][]int{nil, {}, make([]int, 0, 9)} {
		checkNoThen(t, empty, []int{0}, api.ErrSize)
		checkNoThen(t, []int{0}, empty, api.ErrSize)
		checkNoThen(t, empty, identity(api.MaxList), api.ErrSize)
		checkNoThen(t, identity(api.MaxList), empty, api.ErrSize)
	}
}

func TestThenOfOneThatIsNoPermutation(t *testing.T) {
	for _, n := range lengths {
		for _, l := range notForm(n) {
			checkNoThen(t, l, mixed(n, 1), api.ErrForm)
			checkNoThen(t, mixed(n, 1), l, api.ErrForm)
			// The lengths differ as well.
			for _, m := range []int{0, 1, n - 1, n + 1} {
				if m != n && m <= api.MaxList {
					checkNoThen(t, l, identity(m), api.ErrForm)
					checkNoThen(t, identity(m), l, api.ErrForm)
				}
			}
		}
	}
	for _, n := range tooLong {
		for _, p := range [][]int{nil, {0}, identity(20), identity(api.MaxList), mixed(api.MaxList, 1)} {
			checkNoThen(t, identity(n), p, api.ErrSize)
			checkNoThen(t, p, identity(n), api.ErrSize)
			checkNoThen(t, make([]int, n), p, api.ErrSize)
			checkNoThen(t, p, make([]int, n), api.ErrSize)
		}
	}
}

func TestThenChecksTheFirstListFirst(t *testing.T) {
	for _, long := range [][]int{identity(api.MaxList + 1), make([]int, api.MaxList+1), identity(512)} {
		for _, wrong := range [][]int{{1}, {-1}, {0, 0}, {0, 2}, {math.MinInt}, {math.MaxInt, 0}, make([]int, api.MaxList)} {
			checkNoThen(t, long, wrong, api.ErrSize)
			checkNoThen(t, wrong, long, api.ErrForm)
		}
	}
}

func TestCycles(t *testing.T) {
	checkCycles(t, []int{1, 0, 2}, [][]int{{0, 1}, {2}})
	checkCycles(t, []int{2, 0, 1, 4, 3}, [][]int{{0, 2, 1}, {3, 4}})
	checkCycles(t, []int{3, 2, 1, 0}, [][]int{{0, 3}, {1, 2}})
	checkCycles(t, []int{4, 3, 1, 2, 0}, [][]int{{0, 4}, {1, 3, 2}})
	checkCycles(t, []int{0, 3, 4, 5, 2, 1}, [][]int{{0}, {1, 3, 5}, {2, 4}})
	checkCycles(t, []int{0}, [][]int{{0}})
	checkCycles(t, []int{0, 1}, [][]int{{0}, {1}})
	checkCycles(t, nil, nil)
	checkCycles(t, []int{}, nil)
	for _, n := range lengths {
		var single, opposite [][]int
		for i := range n {
			single = append(single, []int{i})
			if j := n - 1 - i; i < j {
				opposite = append(opposite, []int{i, j})
			} else if i == j {
				opposite = append(opposite, []int{i})
			}
		}
		checkCycles(t, identity(n), single)
		checkCycles(t, reversal(n), opposite)
		checkCycles(t, rotation(n, 1), [][]int{identity(n)})
		// Behind its smallest number, the other ones follow from the largest to the smallest.
		checkCycles(t, rotation(n, n-1), [][]int{append([]int{0}, reversal(n)[:n-1]...)})
	}
}

func TestCyclesOfEachPermutation(t *testing.T) {
	eachPermutation(func(p []int) { checkCycles(t, p, cyclesOf(p)) })
	for n := range api.MaxList + 1 {
		p := mixed(n, 7)
		checkCycles(t, p, cyclesOf(p))
	}
}

func TestSwaps(t *testing.T) {
	checkSwaps(t, []int{2, 1, 0}, 3)
	checkSwaps(t, []int{2, 0, 1, 4, 3}, 3)
	checkSwaps(t, []int{1, 0}, 1)
	checkSwaps(t, []int{0, 1}, 0)
	checkSwaps(t, []int{0}, 0)
	checkSwaps(t, nil, 0)
	checkSwaps(t, []int{}, 0)
	for _, n := range lengths {
		checkSwaps(t, identity(n), 0)
		checkSwaps(t, reversal(n), n*(n-1)/2)
		checkSwaps(t, rotation(n, 1), n-1)
		checkSwaps(t, rotation(n, n-1), n-1)
		if n > 1 {
			checkSwaps(t, exchange(n, n-2, n-1), 1)
			checkSwaps(t, exchange(n, 0, n-1), 2*n-3)
		}
	}
}

func TestSwapsOfEachPermutation(t *testing.T) {
	eachPermutation(func(p []int) { checkSwaps(t, p, inversions(p)) })
	for n := range api.MaxList + 1 {
		p := mixed(n, 8)
		checkSwaps(t, p, inversions(p))
	}
}

func TestNumberAndOrder(t *testing.T) {
	checkRank(t, []int{1, 0}, 1)
	checkRank(t, []int{0, 1}, 0)
	checkRank(t, []int{1, 0, 2}, 2)
	checkRank(t, []int{2, 0, 1, 4, 3}, 49)
	checkRank(t, []int{0}, 0)
	checkRank(t, nil, 0)
	checkRank(t, []int{}, 0)
	checkRank(t, make([]int, 0, 5), 0)
}

func TestEachRank(t *testing.T) {
	for n := range 9 {
		all := ordered(n)
		for rank, p := range all {
			checkRank(t, p, rank)
		}
		checkNoOrder(t, n, len(all))
		checkNoOrder(t, n, -1)
	}
}

func TestFirstAndLastRank(t *testing.T) {
	for n := range mostRanked + 1 {
		checkRank(t, identity(n), 0)
		checkRank(t, reversal(n), factorials[n]-1)
		if n > 1 {
			checkRank(t, exchange(n, n-2, n-1), 1)
			checkRank(t, with(with(reversal(n), n-2, 0), n-1, 1), factorials[n]-2)
		}
	}
}

func TestRanksOfEachFirstNumber(t *testing.T) {
	// Before the first permutation that starts with a number are those that start with a smaller one.
	for n := 1; n <= mostRanked; n++ {
		for first := range n {
			others := slices.Delete(identity(n), first, first+1)
			checkRank(t, append([]int{first}, others...), first*factorials[n-1])
			slices.Reverse(others)
			checkRank(t, append([]int{first}, others...), (first+1)*factorials[n-1]-1)
		}
	}
}

func TestRanksInARow(t *testing.T) {
	for n := 9; n <= mostRanked; n++ {
		for seed := range 20 {
			p := mixed(n, seed)
			rank := rankOf(p)
			for range 50 {
				checkRank(t, p, rank)
				next, found := successor(p)
				if !found {
					break
				}
				p, rank = next, rank+1
			}
		}
	}
}

func TestNumberAndBack(t *testing.T) {
	for n := range mostRanked + 1 {
		word := mixer(n)
		for seed := range 200 {
			p := mixed(n, seed)
			checkRank(t, p, rankOf(p))
			rank := int(word()>>1) % factorials[n]
			p, err := perm.Order(n, rank)
			if err != api.OK || len(p) != n || !isPermutation(p) {
				t.Errorf("Order(%d, %d) = %v, %d; want a permutation, 0", n, rank, p, err)
			}
			checkNumber(t, p, rank)
		}
	}
}

func TestNumberOfTooManyElements(t *testing.T) {
	for n := mostRanked + 1; n <= api.MaxList; n++ {
		checkNoNumber(t, identity(n), api.ErrRange)
		checkNoNumber(t, reversal(n), api.ErrRange)
		checkNoNumber(t, mixed(n, 1), api.ErrRange)
	}
}

func TestNumberOfWhatIsNoPermutation(t *testing.T) {
	for n := 1; n <= 2*mostRanked; n++ {
		for _, l := range notForm(n) {
			checkNoNumber(t, l, api.ErrForm)
		}
	}
	for _, n := range tooLong {
		checkNoNumber(t, identity(n), api.ErrSize)
		checkNoNumber(t, make([]int, n), api.ErrSize)
	}
}

func TestNoSuchRank(t *testing.T) {
	for n := range mostRanked + 1 {
		count := factorials[n]
		checkOrder(t, n, count-1, reversal(n))
		for _, number := range []int{-count - 1, -count, -2, -1, count, count + 1, math.MinInt, math.MinInt + 1, -1 << 62,
			1 << 62, math.MaxInt - 1, math.MaxInt} {
			checkNoOrder(t, n, number)
		}
		if n < mostRanked {
			checkNoOrder(t, n, factorials[n+1])
		}
	}
}

func TestOrderOfTooManyElements(t *testing.T) {
	notLengths := append([]int{-20, -3, mostRanked + 1, mostRanked + 2, 25, 32, 63, 64, 65, 66, 67, 128}, extremes...)
	for _, n := range notLengths {
		for _, number := range []int{0, 1, 2, -1, factorials[mostRanked] - 1, factorials[mostRanked], math.MinInt,
			math.MaxInt} {
			checkNoOrder(t, n, number)
		}
	}
}

func TestSparesDoNotCount(t *testing.T) {
	// The spare capacity has what would make the list another one.
	whole := []int{1, 0, 2, 3, 3, -1}
	checkCheck(t, whole[:1], api.ErrForm)
	for n := 2; n <= 4; n++ {
		checkCheck(t, whole[:n], api.OK)
		checkCycles(t, whole[:n], cyclesOf([]int{1, 0, 2, 3}[:n]))
		checkRank(t, whole[:n], factorials[n-1])
	}
	checkCheck(t, whole[:5], api.ErrForm)
	checkNoThen(t, whole[:2], whole[:3], api.ErrSize)
}

// eachCall calls f with calls of all functions that take lists, each with p and q.
func eachCall(f func(name string, call func(p, q []int) [][]int)) {
	f("Check", func(p, q []int) [][]int {
		perm.Check(p)
		return nil
	})
	f("Inverse", func(p, q []int) [][]int {
		inverse, _ := perm.Inverse(p)
		return [][]int{inverse}
	})
	f("Then", func(p, q []int) [][]int {
		both, _ := perm.Then(p, q)
		return [][]int{both}
	})
	f("Cycles", func(p, q []int) [][]int {
		cycles, _ := perm.Cycles(p)
		return cycles
	})
	f("Swaps", func(p, q []int) [][]int {
		perm.Swaps(p)
		return nil
	})
	f("Number", func(p, q []int) [][]int {
		perm.Number(p)
		return nil
	})
}

// pairs returns pairs of lists with spare capacity: permutations, lists that are none, and lists without elements.
func pairs() [][2][]int {
	var all [][2][]int
	add := func(p, q []int) {
		all = append(all, [2][]int{append(p, 0, -5, 7)[:len(p)], append(q, 3, 0)[:len(q)]})
	}
	for _, n := range []int{0, 1, 2, 3, 20, 21, 64, api.MaxList} {
		add(mixed(n, 1), mixed(n, 2))
		add(identity(n), identity(n))
		add(identity(n), reversal(n))
		add(mixed(n, 1), mixed(n+1, 1))
		add(make([]int, n), reversal(n))
	}
	return all
}

func TestListsAreNotChanged(t *testing.T) {
	eachCall(func(name string, call func(p, q []int) [][]int) {
		for _, pair := range pairs() {
			p, q := pair[0], pair[1]
			wholeP, wholeQ := slices.Clone(p[:cap(p)]), slices.Clone(q[:cap(q)])
			call(p, q)
			if !slices.Equal(p[:cap(p)], wholeP) || !slices.Equal(q[:cap(q)], wholeQ) {
				t.Errorf("%s changed %v to %v or %v to %v", name, wholeP, p[:cap(p)], wholeQ, q[:cap(q)])
			}
		}
	})
}

func TestResultsAreApart(t *testing.T) {
	eachCall(func(name string, call func(p, q []int) [][]int) {
		for _, pair := range pairs() {
			p, q := pair[0], pair[1]
			wholeP, wholeQ := slices.Clone(p[:cap(p)]), slices.Clone(q[:cap(q)])
			first, other, want := call(p, q), call(p, q), call(p, q)
			for i, l := range first {
				stamp(l)
				if !sameLists(first[i+1:], want[i+1:]) {
					t.Errorf("%s: the lists behind list %d changed with it: %v", name, i, first)
				}
			}
			if !slices.Equal(p[:cap(p)], wholeP) || !slices.Equal(q[:cap(q)], wholeQ) {
				t.Errorf("%s: the lists %v and %v changed with the result", name, p[:cap(p)], q[:cap(q)])
			}
			if !sameLists(other, want) {
				t.Errorf("%s: a second result changed with the first one: %v; want %v", name, other, want)
			}
			stamp(p)
			stamp(q)
			if !sameLists(other, want) {
				t.Errorf("%s: the result changed with the lists: %v; want %v", name, other, want)
			}
		}
	})
}

func TestCyclesAreApartInReverse(t *testing.T) {
	for _, n := range lengths {
		for _, p := range shapes(n) {
			cycles, _ := perm.Cycles(p)
			want := cyclesOf(p)
			for i := len(cycles) - 1; i >= 0; i-- {
				stamp(cycles[i])
				if !sameLists(cycles[:i], want[:i]) {
					t.Fatalf("Cycles(%v): the cycles before cycle %d changed with it: %v", p, i, cycles)
				}
			}
		}
	}
}

func TestOrdersAreApart(t *testing.T) {
	for n := range mostRanked + 1 {
		for _, number := range []int{0, factorials[n] / 2, factorials[n] - 1} {
			first, _ := perm.Order(n, number)
			want := slices.Clone(first)
			other, _ := perm.Order(n, number)
			stamp(first)
			if !slices.Equal(other, want) {
				t.Errorf("Order(%d, %d): a second list changed with the first one: %v; want %v", n, number, other, want)
			}
			checkOrder(t, n, number, want)
		}
	}
}
