package seg_test

import (
	"math"
	"slices"
	"testing"

	"damask/api"
	"damask/seg"
)

const most = api.MaxCoord

var (
	// extremes are numbers that are far from every index and from every number of a list.
	extremes = []int{math.MinInt, math.MinInt + 1, -1 << 62, -1 << 32, 1 << 32, 1 << 62, math.MaxInt - 1, math.MaxInt}
	// notCoords are numbers that are not in the range from -MaxCoord to MaxCoord.
	notCoords = append([]int{-2 * most, -most - 2, -most - 1, most + 1, most + 2, 2 * most}, extremes...)
	// notKinds are no kinds of operations.
	notKinds = append([]int{-4, -2, -1, 0, 5, 6, 8, 256 + api.AddTo}, extremes...)
	// kinds are all kinds of operations.
	kinds = []int{api.AddTo, api.SetTo, api.LeastOf, api.SumOf}
	// lengths has each power of two up to MaxList, one less and one more.
	lengths = []int{1, 2, 3, 4, 5, 7, 8, 9, 15, 16, 17, 31, 32, 33, 63, 64, 65, 127, 128, 129, 255, 256, 257,
		api.MaxList - 1, api.MaxList}
)

func add(lo, hi, by int) api.Op { return api.Op{Kind: api.AddTo, Lo: lo, Hi: hi, By: by} }
func set(lo, hi, by int) api.Op { return api.Op{Kind: api.SetTo, Lo: lo, Hi: hi, By: by} }
func least(lo, hi int) api.Op   { return api.Op{Kind: api.LeastOf, Lo: lo, Hi: hi} }
func sum(lo, hi int) api.Op     { return api.Op{Kind: api.SumOf, Lo: lo, Hi: hi} }

// errorOf returns the first error of op on a list of n numbers, in the order of the chapter.
func errorOf(n int, op api.Op) api.Errno {
	switch {
	case !slices.Contains(kinds, op.Kind):
		return api.ErrKind
	case op.Lo < 0 || op.Hi < op.Lo || op.Hi > n-1:
		return api.ErrRange
	case (op.Kind == api.AddTo || op.Kind == api.SetTo) && (op.By < -most || op.By > most):
		return api.ErrRange
	}
	return api.OK
}

// step executes op on l, number by number.
func step(l []int, op api.Op) api.Reply {
	if code := errorOf(len(l), op); code != api.OK {
		return api.Reply{Code: code}
	}
	smallest, total := l[op.Lo], 0
	for i := op.Lo; i <= op.Hi; i++ {
		switch op.Kind {
		case api.AddTo:
			l[i] += op.By
		case api.SetTo:
			l[i] = op.By
		}
		if l[i] < smallest {
			smallest = l[i]
		}
		total += l[i]
	}
	switch op.Kind {
	case api.LeastOf:
		return api.Reply{Value: smallest}
	case api.SumOf:
		return api.Reply{Value: total}
	}
	return api.Reply{}
}

// played returns the replies to ops and the list after them, number by number.
func played(l []int, ops []api.Op) ([]api.Reply, []int) {
	after := slices.Clone(l)
	var replies []api.Reply
	for _, op := range ops {
		replies = append(replies, step(after, op))
	}
	return replies, after
}

// fill returns the list of n numbers in which number i is f(i).
func fill(n int, f func(i int) int) []int {
	l := make([]int, n)
	for i := range l {
		l[i] = f(i)
	}
	return l
}

// same returns the list of n numbers that are all x.
func same(n, x int) []int {
	return fill(n, func(i int) int { return x })
}

// repeat returns n times the operation op.
func repeat(n int, op api.Op) []api.Op {
	return slices.Repeat([]api.Op{op}, n)
}

// with returns a copy of l in which number i is x.
func with(l []int, i, x int) []int {
	c := slices.Clone(l)
	c[i] = x
	return c
}

// mixer returns a function that returns fixed mixed numbers from low to high, the same ones for the same seed.
func mixer(seed int) func(low, high int) int {
	state := uint64(seed)
	return func(low, high int) int {
		state = state*6364136223846793005 + 1442695040888963407
		return low + int(state>>20)%(high-low+1)
	}
}

// mixed returns n fixed mixed numbers from low to high.
func mixed(n, low, high int) []int {
	next := mixer(1000*n + high)
	return fill(n, func(i int) int { return next(low, high) })
}

// mixedOps returns count fixed mixed operations on a list of n numbers, with numbers of up to size to add and to set.
func mixedOps(seed, count, n, size int) []api.Op {
	next := mixer(seed)
	ops := make([]api.Op, count)
	for i := range ops {
		lo, hi := next(0, n-1), next(0, n-1)
		ops[i] = api.Op{Kind: kinds[next(0, 3)], Lo: min(lo, hi), Hi: max(lo, hi), By: next(-size, size)}
	}
	return ops
}

// shapes returns lists of n numbers.
func shapes(n int) [][]int {
	return [][]int{
		same(n, 0),
		same(n, 1),
		same(n, -1),
		same(n, most),
		same(n, -most),
		fill(n, func(i int) int { return i }),
		fill(n, func(i int) int { return -i }),
		fill(n, func(i int) int { return most * (i%2*2 - 1) }),
		with(same(n, 4), 0, -5),
		with(same(n, 4), n/2, -5),
		with(same(n, 4), n-1, -5),
		mixed(n, -3, 3),
		mixed(n, -most, most),
	}
}

// ranges returns ranges of n indices: of one index, of all, at the start, at the end and between.
func ranges(n int) []api.Span {
	spans := []api.Span{{Lo: 0, Hi: n - 1}}
	for _, i := range []int{0, 1, n/2 - 1, n / 2, n/2 + 1, n - 2, n - 1} {
		if i >= 0 && i < n {
			spans = append(spans, api.Span{Lo: i, Hi: i}, api.Span{Lo: 0, Hi: i}, api.Span{Lo: i, Hi: n - 1},
				api.Span{Lo: min(i, n/3), Hi: max(i, n/3)})
		}
	}
	return spans
}

// allRanges returns every range of n indices.
func allRanges(n int) []api.Span {
	var spans []api.Span
	for hi := range n {
		for lo := range hi + 1 {
			spans = append(spans, api.Span{Lo: lo, Hi: hi})
		}
	}
	return spans
}

// questions asks for the minimum and the sum of each of the ranges.
func questions(spans []api.Span) []api.Op {
	var ops []api.Op
	for _, s := range spans {
		ops = append(ops, least(s.Lo, s.Hi), sum(s.Lo, s.Hi))
	}
	return ops
}

// checkPlay compares the result of Play with operations that are carried out number by number.
func checkPlay(t *testing.T, l []int, ops []api.Op) {
	t.Helper()
	replies, after := played(l, ops)
	checkResult(t, l, ops, replies, after)
}

func checkResult(t *testing.T, l []int, ops []api.Op, replies []api.Reply, after []int) {
	t.Helper()
	got, list, err := seg.Play(l, ops)
	if err != api.OK || !slices.Equal(got, replies) || !slices.Equal(list, after) {
		t.Fatalf("Play(%v, %v) = %v, %v, %d; want %v, %v, 0", l, ops, got, list, err, replies, after)
	}
}

func checkNoPlay(t *testing.T, l []int, ops []api.Op, want api.Errno) {
	t.Helper()
	replies, list, err := seg.Play(l, ops)
	if err != want || len(replies) != 0 || len(list) != 0 {
		t.Errorf("Play(%v, %v) = %v, %v, %d; want [], [], %d", l, ops, replies, list, err, want)
	}
}

// checkCode checks that op has the error want on the list l and has no effect, also between other operations.
func checkCode(t *testing.T, l []int, op api.Op, want api.Errno) {
	t.Helper()
	n := len(l)
	checkResult(t, l, []api.Op{op}, []api.Reply{{Code: want}}, l)
	total := 0
	for _, x := range l {
		total += x
	}
	ops := []api.Op{add(0, n-1, 2), op, sum(0, n-1), op, add(0, n-1, -2), op, least(0, n-1)}
	replies := []api.Reply{{}, {Code: want}, {Value: total + 2*n}, {Code: want}, {}, {Code: want}, {Value: slices.Min(l)}}
	checkResult(t, l, ops, replies, l)
}

func TestExample(t *testing.T) {
	checkResult(t, []int{1, 2, 3}, []api.Op{add(0, 1, 5), least(0, 2)}, []api.Reply{{}, {Value: 3}}, []int{6, 7, 3})
}

func TestPlay(t *testing.T) {
	checkResult(t, []int{3, 1, 4, 1, 5},
		[]api.Op{add(1, 3, 10), least(0, 4), set(2, 4, 7), sum(0, 3), sum(3, 2), {Kind: 5}, add(0, 4, -1), least(1, 4)},
		[]api.Reply{{}, {Value: 3}, {}, {Value: 28}, {Code: api.ErrRange}, {Code: api.ErrKind}, {}, {Value: 6}},
		[]int{2, 10, 6, 6, 6})
	checkResult(t, []int{4, 9}, []api.Op{set(0, 1, 2)}, []api.Reply{{}}, []int{2, 2})
	checkResult(t, []int{4, 9}, []api.Op{least(0, 1), sum(0, 1), least(1, 1)},
		[]api.Reply{{Value: 4}, {Value: 13}, {Value: 9}}, []int{4, 9})
	checkResult(t, []int{-1, 0, -7, 2}, []api.Op{least(0, 1), least(1, 3), sum(0, 3), add(2, 3, 7), least(0, 3)},
		[]api.Reply{{Value: -1}, {Value: -7}, {Value: -6}, {}, {Value: -1}}, []int{-1, 0, 0, 9})
}

func TestOneNumber(t *testing.T) {
	for _, x := range []int{0, 1, -1, 7, most, -most} {
		checkResult(t, []int{x}, []api.Op{least(0, 0), sum(0, 0)}, []api.Reply{{Value: x}, {Value: x}}, []int{x})
		checkResult(t, []int{x}, []api.Op{add(0, 0, 5), least(0, 0), sum(0, 0)},
			[]api.Reply{{}, {Value: x + 5}, {Value: x + 5}}, []int{x + 5})
		checkResult(t, []int{5}, []api.Op{set(0, 0, x), least(0, 0), sum(0, 0), add(0, 0, x), sum(0, 0)},
			[]api.Reply{{}, {Value: x}, {Value: x}, {}, {Value: 2 * x}}, []int{2 * x})
	}
}

func TestNoOperations(t *testing.T) {
	for _, n := range lengths {
		for _, l := range shapes(n) {
			checkResult(t, l, nil, nil, l)
			checkResult(t, l, []api.Op{}, nil, l)
			checkResult(t, l, make([]api.Op, 0, 5), nil, l)
		}
	}
}

func TestQuestionsAboutEachList(t *testing.T) {
	for _, n := range lengths {
		for _, l := range shapes(n) {
			checkPlay(t, l, questions(ranges(n)))
		}
	}
}

func TestQuestionsAboutEachRange(t *testing.T) {
	// Short lists have one operation per call: nothing that an earlier operation did can hide an error.
	for n := 1; n <= 17; n++ {
		for _, l := range shapes(n) {
			for _, op := range questions(allRanges(n)) {
				checkPlay(t, l, []api.Op{op})
			}
		}
	}
	l := mixed(api.MaxList, -most, most)
	for spans := range slices.Chunk(allRanges(api.MaxList), api.MaxActs/2) {
		checkPlay(t, l, questions(spans))
	}
}

func TestEachLength(t *testing.T) {
	for n := 1; n <= api.MaxList; n++ {
		l := mixed(n, -most, most)
		checkPlay(t, l, mixedOps(n, 30, n, most))
		checkPlay(t, l, slices.Concat(questions(ranges(n)), []api.Op{add(0, n/2, 3), set(n/3, n-1, -4)}, questions(ranges(n))))
	}
}

func TestChangesOfEachRange(t *testing.T) {
	for n := 1; n <= 9; n++ {
		l := mixed(n, -9, 9)
		spans := allRanges(n)
		for _, s := range spans {
			for _, by := range []int{0, 1, -1, 20, most, -most} {
				checkPlay(t, l, []api.Op{add(s.Lo, s.Hi, by)})
				checkPlay(t, l, []api.Op{set(s.Lo, s.Hi, by)})
				checkPlay(t, l, append([]api.Op{add(s.Lo, s.Hi, by)}, questions(spans)...))
				checkPlay(t, l, append([]api.Op{set(s.Lo, s.Hi, by)}, questions(spans)...))
			}
		}
	}
}

func TestTwoChangesOfEachTwoRanges(t *testing.T) {
	// The ranges overlap, contain one another and are apart.
	for n := 1; n <= 7; n++ {
		l := mixed(n, -9, 9)
		spans := allRanges(n)
		for _, a := range spans {
			for _, b := range spans {
				for _, ops := range [][]api.Op{
					{add(a.Lo, a.Hi, 20), add(b.Lo, b.Hi, -7)},
					{add(a.Lo, a.Hi, -20), set(b.Lo, b.Hi, 5)},
					{set(a.Lo, a.Hi, -5), add(b.Lo, b.Hi, 30)},
					{set(a.Lo, a.Hi, 4), set(b.Lo, b.Hi, -6)},
				} {
					checkPlay(t, l, ops)
					checkPlay(t, l, append(ops, questions(spans)...))
				}
			}
		}
	}
}

func TestQuestionsBetweenChanges(t *testing.T) {
	for _, n := range lengths {
		l := mixed(n, -50, 50)
		spans := ranges(n)
		for _, a := range spans {
			var ops []api.Op
			for i, b := range spans {
				ops = append(ops, set(a.Lo, a.Hi, i), least(b.Lo, b.Hi), add(b.Lo, b.Hi, -3), sum(a.Lo, a.Hi),
					add(a.Lo, a.Hi, 2*i), least(0, n-1), set(b.Lo, b.Hi, 1-i), sum(0, n-1), least(a.Lo, b.Hi))
			}
			checkPlay(t, l, ops[:min(len(ops), api.MaxActs)])
		}
	}
}

func TestChangesOfOneRange(t *testing.T) {
	// All changes wait at the same node until the last one is followed by a question about one number.
	for _, n := range []int{2, 3, 8, 9, 64, api.MaxList} {
		l := mixed(n, -50, 50)
		for _, changes := range [][]api.Op{
			{add(0, n-1, 3), add(0, n-1, 4)},
			{add(0, n-1, 3), set(0, n-1, 4)},
			{set(0, n-1, 3), add(0, n-1, 4)},
			{set(0, n-1, 3), set(0, n-1, 4)},
			{set(0, n-1, 3), set(0, n-1, 0)},
			{set(0, n-1, 0), add(0, n-1, 0)},
			{set(0, n-1, 3), add(0, n-1, -3), add(0, n-1, 8)},
			{add(0, n-1, 3), set(0, n-1, 4), add(0, n-1, 5), set(0, n-1, 6), add(0, n-1, 7)},
		} {
			for _, i := range []int{0, n / 2, n - 1} {
				checkPlay(t, l, append(slices.Clone(changes), least(i, i), sum(i, i), least(0, n-1), sum(0, n-1)))
				checkPlay(t, l, append(slices.Clone(changes), add(i, i, -1), sum(0, n-1), least(0, n-1)))
				checkPlay(t, l, append(slices.Clone(changes), set(i, i, 90), least(0, n-1), sum(0, n-1)))
			}
			checkPlay(t, l, changes)
		}
	}
}

func TestChangeOfEachNumber(t *testing.T) {
	n := api.MaxList
	l := mixed(n, -most, most)
	ops := make([]api.Op, n)
	for i := range ops {
		ops[i] = set(i, i, n-i)
	}
	checkPlay(t, l, ops)
	for i := range ops {
		ops[i] = add(i, n-1, i)
	}
	checkPlay(t, l, ops)
	for i := range ops {
		ops[i] = set(0, n-1-i, i)
	}
	checkPlay(t, l, ops)
}

func TestLargestChanges(t *testing.T) {
	for _, n := range []int{1, 2, 3, 256, api.MaxList} {
		for _, by := range []int{most, -most} {
			end := by * (api.MaxActs - 1)
			checkResult(t, same(n, by), append(repeat(api.MaxActs-2, add(0, n-1, by)), least(0, n-1), sum(0, n-1)),
				append(make([]api.Reply, api.MaxActs-2), api.Reply{Value: end}, api.Reply{Value: end * n}), same(n, end))
			checkResult(t, same(n, by), repeat(api.MaxActs, add(0, n-1, by)), make([]api.Reply, api.MaxActs),
				same(n, by*(api.MaxActs+1)))
			checkPlay(t, same(n, by), append(repeat(api.MaxActs-1, add(0, n/2, by)), sum(0, n-1)))
			checkPlay(t, same(n, by), append(repeat(api.MaxActs-1, add(0, n/2, by)), least(0, n-1)))
		}
	}
}

func TestNumbersBeyondTheLimit(t *testing.T) {
	// Only the numbers of l and By are limited, not what the list becomes.
	checkResult(t, []int{most, -most}, []api.Op{add(0, 0, 1), add(1, 1, -1), least(0, 1), sum(0, 0), sum(0, 1)},
		[]api.Reply{{}, {}, {Value: -most - 1}, {Value: most + 1}, {}}, []int{most + 1, -most - 1})
}

func TestMostOperations(t *testing.T) {
	for _, n := range []int{1, 2, 16, 17, api.MaxList} {
		l := mixed(n, -most, most)
		for _, op := range []api.Op{add(0, n-1, 1), set(0, n/2, 1), least(0, n-1), sum(n/2, n-1), {}, add(n, n, 1)} {
			checkPlay(t, l, repeat(api.MaxActs, op))
			checkPlay(t, l, repeat(api.MaxActs-1, op))
		}
	}
}

func TestMixedOperations(t *testing.T) {
	for _, n := range lengths {
		for seed := range 20 {
			checkPlay(t, mixed(n, -most, most), mixedOps(seed, api.MaxActs, n, most))
			checkPlay(t, mixed(n, -5, 5), mixedOps(100+seed, api.MaxActs, n, 5))
			checkPlay(t, mixed(n, 0, 0), mixedOps(200+seed, api.MaxActs, n, 1))
		}
	}
}

func TestMixedOperationsWithErrors(t *testing.T) {
	for _, n := range lengths {
		for seed := range 10 {
			ops := mixedOps(300+seed, api.MaxActs, n, most+most/4)
			next := mixer(seed)
			for i := range ops {
				switch next(0, 9) {
				case 0:
					ops[i].Kind = notKinds[next(0, len(notKinds)-1)]
				case 1:
					ops[i].Lo, ops[i].Hi = ops[i].Hi, ops[i].Lo
				case 2:
					ops[i].Hi += n
				case 3:
					ops[i].Lo -= n
				}
			}
			checkPlay(t, mixed(n, -most, most), ops)
		}
	}
}

func TestUnknownKind(t *testing.T) {
	for _, l := range [][]int{{7}, {3, 1, 4}, mixed(api.MaxList, -most, most)} {
		n := len(l)
		for _, kind := range notKinds {
			checkCode(t, l, api.Op{Kind: kind, Lo: 0, Hi: n - 1, By: 1}, api.ErrKind)
			checkCode(t, l, api.Op{Kind: kind, Lo: -1, Hi: n - 1, By: 1}, api.ErrKind)
			checkCode(t, l, api.Op{Kind: kind, Lo: 0, Hi: n, By: 1}, api.ErrKind)
			checkCode(t, l, api.Op{Kind: kind, Lo: n - 1, Hi: n - 2, By: most + 1}, api.ErrKind)
			checkCode(t, l, api.Op{Kind: kind, Lo: 0, Hi: 0, By: math.MinInt}, api.ErrKind)
			checkCode(t, l, api.Op{Kind: kind, Lo: math.MinInt, Hi: math.MaxInt, By: math.MaxInt}, api.ErrKind)
		}
	}
}

func TestNoRange(t *testing.T) {
	for _, l := range [][]int{{7}, {3, 1}, mixed(16, -9, 9), mixed(17, -9, 9), mixed(api.MaxList, -most, most)} {
		n := len(l)
		for _, kind := range kinds {
			for _, by := range []int{0, 1, -most - 1, math.MaxInt} {
				check := func(lo, hi int) {
					t.Helper()
					checkCode(t, l, api.Op{Kind: kind, Lo: lo, Hi: hi, By: by}, api.ErrRange)
				}
				check(-1, -1)
				check(-1, 0)
				check(-1, n-1)
				check(-n, n-1)
				check(1, 0)
				check(n-1, n-2)
				check(n, n-1)
				check(0, -1)
				check(0, n)
				check(n-1, n)
				check(n, n)
				check(n+1, n+1)
				check(0, api.MaxList)
				check(-1, n)
				for _, x := range extremes {
					check(x, 0)
					check(x, n-1)
					check(0, x)
					check(n-1, x)
					check(x, x)
				}
				check(math.MinInt, math.MaxInt)
				check(math.MaxInt, math.MinInt)
			}
		}
	}
}

func TestEachPairOfPlaces(t *testing.T) {
	for n := 1; n <= 5; n++ {
		l := mixed(n, -9, 9)
		for lo := -2; lo <= n+2; lo++ {
			for hi := -2; hi <= n+2; hi++ {
				for _, kind := range kinds {
					checkPlay(t, l, []api.Op{{Kind: kind, Lo: lo, Hi: hi, By: 3}, least(0, n-1), sum(0, n-1)})
				}
			}
		}
	}
}

func TestByOutOfRange(t *testing.T) {
	for _, l := range [][]int{{7}, {3, 1}, mixed(17, -9, 9), mixed(api.MaxList, -most, most)} {
		n := len(l)
		for _, by := range notCoords {
			for _, s := range ranges(n) {
				checkCode(t, l, add(s.Lo, s.Hi, by), api.ErrRange)
				checkCode(t, l, set(s.Lo, s.Hi, by), api.ErrRange)
			}
		}
	}
}

func TestByAtTheLimits(t *testing.T) {
	checkResult(t, []int{1, 2}, []api.Op{add(0, 0, most), add(1, 1, -most), sum(0, 1), least(0, 1)},
		[]api.Reply{{}, {}, {Value: 3}, {Value: 2 - most}}, []int{1 + most, 2 - most})
	checkResult(t, []int{1, 2}, []api.Op{set(0, 0, most), set(1, 1, -most), sum(0, 1), least(0, 1), least(0, 0)},
		[]api.Reply{{}, {}, {}, {Value: -most}, {Value: most}}, []int{most, -most})
	checkResult(t, []int{1, 2}, []api.Op{add(0, 1, 0), set(1, 1, 0)}, []api.Reply{{}, {}}, []int{1, 0})
}

func TestQuestionsDoNotLookAtBy(t *testing.T) {
	l := []int{3, 1, 4}
	for _, by := range append([]int{1, -1, most, -most}, notCoords...) {
		checkResult(t, l, []api.Op{
			{Kind: api.LeastOf, Lo: 0, Hi: 2, By: by}, {Kind: api.SumOf, Lo: 0, Hi: 2, By: by},
			{Kind: api.LeastOf, Lo: 2, Hi: 2, By: by}, {Kind: api.SumOf, Lo: 1, Hi: 2, By: by},
		}, []api.Reply{{Value: 1}, {Value: 8}, {Value: 4}, {Value: 5}}, l)
	}
}

func TestOnlyErrors(t *testing.T) {
	l := mixed(20, -most, most)
	ops := slices.Concat(repeat(100, add(0, 20, 1)), repeat(100, api.Op{Kind: 5}), repeat(100, set(0, 19, most+1)))
	replies := slices.Concat(slices.Repeat([]api.Reply{{Code: api.ErrRange}}, 100),
		slices.Repeat([]api.Reply{{Code: api.ErrKind}}, 100), slices.Repeat([]api.Reply{{Code: api.ErrRange}}, 100))
	checkResult(t, l, ops, replies, l)
}

// someOps returns lists of operations, with errors and without, none of which is too long.
func someOps() [][]api.Op {
	return [][]api.Op{
		nil, {}, {add(0, 0, 1)}, {least(0, 0), sum(0, 0)}, {{}}, {{Kind: 5}, set(1, 0, 7)}, {set(0, 0, math.MaxInt)},
		repeat(api.MaxActs, sum(0, 0)),
	}
}

func TestNoList(t *testing.T) {
	for _, l := range [][]int{nil, {}, make([]int, 0, 5)} {
		for _, ops := range someOps() {
			checkNoPlay(t, l, ops, api.ErrSize)
		}
		checkNoPlay(t, l, repeat(api.MaxActs+1, add(0, 0, 1)), api.ErrSize)
	}
}

func TestListTooLong(t *testing.T) {
	for _, n := range []int{api.MaxList + 1, api.MaxList + 2, 512, 1 << 16} {
		for _, ops := range someOps() {
			checkNoPlay(t, same(n, 0), ops, api.ErrSize)
			checkNoPlay(t, mixed(n, -most, most), ops, api.ErrSize)
		}
		for _, x := range notCoords {
			checkNoPlay(t, same(n, x), nil, api.ErrSize)
			checkNoPlay(t, with(same(n, 1), 0, x), []api.Op{add(0, 0, 1)}, api.ErrSize)
			checkNoPlay(t, with(same(n, 1), n-1, x), nil, api.ErrSize)
		}
	}
}

func TestTooManyOperations(t *testing.T) {
	for _, n := range []int{1, 2, 100, api.MaxList} {
		for _, count := range []int{api.MaxActs + 1, api.MaxActs + 2, 512, 1 << 14} {
			for _, op := range []api.Op{add(0, n-1, 1), set(0, 0, 1), least(0, 0), sum(0, n-1), {}, add(0, n, 1)} {
				checkNoPlay(t, same(n, 1), repeat(count, op), api.ErrSize)
				checkNoPlay(t, same(n, most+1), repeat(count, op), api.ErrSize)
				checkNoPlay(t, with(same(n, 1), n-1, math.MinInt), repeat(count, op), api.ErrSize)
			}
		}
	}
	checkNoPlay(t, same(api.MaxList+1, most+1), repeat(api.MaxActs+1, api.Op{}), api.ErrSize)
}

func TestNumbersOutOfRange(t *testing.T) {
	for _, n := range lengths {
		for _, x := range notCoords {
			for _, i := range []int{0, n / 2, n - 1} {
				for _, ops := range someOps() {
					checkNoPlay(t, with(same(n, 1), i, x), ops, api.ErrRange)
				}
				checkNoPlay(t, with(mixed(n, -most, most), i, x), nil, api.ErrRange)
				checkNoPlay(t, with(same(n, 1), i, x), []api.Op{set(0, n-1, 0)}, api.ErrRange)
			}
			checkNoPlay(t, same(n, x), []api.Op{least(0, n-1)}, api.ErrRange)
		}
	}
}

func TestArgumentsAreNotChanged(t *testing.T) {
	// The spare capacity of both lists has other elements, which neither count nor change.
	whole := append(mixed(100, -most, most), -77, -78, -79)
	wholeOps := append(mixedOps(1, 200, 100, most), add(0, 99, 1), set(0, 99, 2), api.Op{})
	list, acts := slices.Clone(whole), slices.Clone(wholeOps)
	l, ops := whole[:100], wholeOps[:200]
	checkPlay(t, l, ops)
	checkNoPlay(t, whole[:0], ops, api.ErrSize)
	checkNoPlay(t, l, append(slices.Clone(ops), make([]api.Op, 200)...), api.ErrSize)
	checkNoPlay(t, with(l, 3, most+1), ops, api.ErrRange)
	checkPlay(t, l[:40], ops)
	checkPlay(t, l[99:], ops[199:])
	if !slices.Equal(whole, list) {
		t.Errorf("the list changed: %v; want %v", whole, list)
	}
	if !slices.Equal(wholeOps, acts) {
		t.Errorf("the operations changed: %v; want %v", wholeOps, acts)
	}
}

func TestResultsAreApart(t *testing.T) {
	for _, n := range []int{1, 2, 16, 17, api.MaxList} {
		for _, ops := range [][]api.Op{nil, {sum(0, n-1)}, mixedOps(n, 50, n, most)} {
			l := append(mixed(n, -most, most), 1, 2, 3)[:n]
			given := slices.Clone(l[:cap(l)])
			wantReplies, wantList := played(l, ops)
			replies, list, _ := seg.Play(l, ops)
			otherReplies, otherList, _ := seg.Play(l, ops)
			stamp(list, 5)
			stamp(replies, api.Reply{Code: api.ErrFull, Value: 6})
			if !slices.Equal(l[:cap(l)], given) {
				t.Errorf("the list that was passed changed with the returned one: %v; want %v", l[:cap(l)], given)
			}
			if !slices.Equal(otherReplies, wantReplies) || !slices.Equal(otherList, wantList) {
				t.Errorf("a second result changed with the first one: %v, %v", otherReplies, otherList)
			}
			stamp(l, 7)
			if !slices.Equal(otherReplies, wantReplies) || !slices.Equal(otherList, wantList) {
				t.Errorf("a result changed with the list that was passed: %v, %v", otherReplies, otherList)
			}
			checkPlay(t, given[:n], ops)
		}
	}
}

// stamp sets each element of l, also in its spare capacity, to mark.
func stamp[T any](l []T, mark T) {
	spare := l[:cap(l)]
	for i := range spare {
		spare[i] = mark
	}
}
