package grid_test

import (
	"cmp"
	"math"
	"slices"
	"testing"

	"damask/api"
	"damask/grid"
)

// most is the largest coordinate and the largest weight.
const most = api.MaxCoord

var (
	// everywhere is a rectangle that has every position.
	everywhere = rect(math.MinInt, math.MinInt, math.MaxInt, math.MaxInt)
	// beyond are numbers that are no coordinate and no weight.
	beyond = []int{math.MinInt, math.MinInt + 1, -1 << 62, -1 << 32, -1 << 21, -most - 2, -most - 1, most + 1, most + 2,
		1 << 21, 1 << 32, 1 << 62, math.MaxInt - 1, math.MaxInt}
	// negative are numbers that are too small for k.
	negative = []int{-1, -2, -api.MaxPoints, -1 << 32, math.MinInt + 1, math.MinInt}
	// large are numbers of points that no rectangle has.
	large = []int{api.MaxPoints + 1, 1 << 8, 1 << 21, 1 << 32, 1 << 62, math.MaxInt - api.MaxPoints, math.MaxInt - 1,
		math.MaxInt}
	// lengths are numbers of points, around powers of 2 and the largest one that is allowed.
	lengths = []int{1, 2, 3, 4, 7, 8, 9, 31, 32, 33, 63, 64, 65, 127, 128, 129, api.MaxPoints - 1, api.MaxPoints}
	// tooMany are numbers of points that are not allowed.
	tooMany = []int{api.MaxPoints + 1, api.MaxPoints + 2, 2 * api.MaxPoints, api.MaxList, api.MaxList + 1, 512, 1 << 16}
	// fields are the numbers of a point.
	fields = []func(p *api.Point) *int{
		func(p *api.Point) *int { return &p.X },
		func(p *api.Point) *int { return &p.Y },
		func(p *api.Point) *int { return &p.W },
	}
)

func point(x, y, w int) api.Point {
	return api.Point{X: x, Y: y, W: w}
}

func rect(x0, y0, x1, y1 int) api.Rect {
	return api.Rect{X0: x0, Y0: y0, X1: x1, Y1: y1}
}

// fill returns the list of n points in which point i is f(i).
func fill(n int, f func(i int) api.Point) []api.Point {
	ps := make([]api.Point, n)
	for i := range ps {
		ps[i] = f(i)
	}
	return ps
}

// with returns a copy of ps in which a field of point i is x.
func with(ps []api.Point, i int, field func(p *api.Point) *int, x int) []api.Point {
	c := slices.Clone(ps)
	*field(&c[i]) = x
	return c
}

// mixer returns a function that returns fixed mixed numbers from low to high, the same ones for the same seed.
func mixer(seed int) func(low, high int) int {
	state := uint64(seed)
	return func(low, high int) int {
		state = state*6364136223846793005 + 1442695040888963407
		return low + int(state>>33)%(high-low+1)
	}
}

// mixed returns n mixed points whose coordinates and weights are from low to high.
func mixed(n, low, high int) []api.Point {
	next := mixer(n + 7*high)
	return fill(n, func(int) api.Point { return point(next(low, high), next(low, high), next(low, high)) })
}

// spread returns the number with index i of n numbers, at least one, that rise from -most to most; one number is -most.
func spread(i, n int) int {
	return -most + 2*most*i/max(n-1, 1)
}

// shapes returns lists of n points, at least one.
func shapes(n int) [][]api.Point {
	ends := []int{-most, most, 0}
	next := mixer(n)
	return [][]api.Point{
		// All of them equal, and equal but for the weight.
		fill(n, func(int) api.Point { return point(0, 0, 0) }),
		fill(n, func(int) api.Point { return point(-3, 4, -5) }),
		fill(n, func(int) api.Point { return point(most, -most, most) }),
		fill(n, func(i int) api.Point { return point(2, 2, i) }),
		fill(n, func(i int) api.Point { return point(2, 2, -i) }),
		fill(n, func(i int) api.Point { return point(-2, 2, i%7-3) }),
		fill(n, func(i int) api.Point { return point(-most, most, spread(i*37%n, n)) }),
		// On a line.
		fill(n, func(i int) api.Point { return point(i, 5, i) }),
		fill(n, func(i int) api.Point { return point(-i, 5, 1) }),
		fill(n, func(i int) api.Point { return point(5, i, -i) }),
		fill(n, func(i int) api.Point { return point(5, -i, 1) }),
		fill(n, func(i int) api.Point { return point(spread(i, n), 0, i/3) }),
		fill(n, func(i int) api.Point { return point(0, spread(i*37%n, n), -i/3) }),
		fill(n, func(i int) api.Point { return point(i-n/2, i-n/2, i*37%n) }),
		fill(n, func(i int) api.Point { return point(spread(i, n), -spread(i, n), i%2) }),
		// In rows and columns, once and several times.
		fill(n, func(i int) api.Point { return point(i%12, i/12, i%5) }),
		fill(n, func(i int) api.Point { return point(i%3-1, i/3%3-1, i/9) }),
		fill(n, func(i int) api.Point { return point(n-i, i/4, 3) }),
		// At the ends of what is allowed.
		fill(n, func(i int) api.Point { return point(ends[i%3], ends[i/3%3], ends[i/9%3]) }),
		fill(n, func(int) api.Point { return point(ends[next(0, 1)], ends[next(0, 1)], ends[next(0, 1)]) }),
		// Mixed ones, close together and far apart.
		mixed(n, 0, 1),
		mixed(n, -2, 2),
		mixed(n, -20, 20),
		mixed(n, -most, most),
	}
}

// eachList calls f with all lists of up to n points that are among kinds.
func eachList(kinds []api.Point, n int, f func(ps []api.Point)) {
	var extend func(start []api.Point)
	extend = func(start []api.Point) {
		f(slices.Clone(start))
		if len(start) < n {
			for _, p := range kinds {
				extend(append(start, p))
			}
		}
	}
	extend(make([]api.Point, 0, n))
}

// eachRect calls f with all rectangles whose sides are among xs.
func eachRect(xs []int, f func(r api.Rect)) {
	for _, x0 := range xs {
		for _, y0 := range xs {
			for _, x1 := range xs {
				for _, y1 := range xs {
					f(rect(x0, y0, x1, y1))
				}
			}
		}
	}
}

// kindsOf returns all points with coordinates among xs and weights among ws.
func kindsOf(xs, ws []int) []api.Point {
	var kinds []api.Point
	for _, x := range xs {
		for _, y := range xs {
			for _, w := range ws {
				kinds = append(kinds, point(x, y, w))
			}
		}
	}
	return kinds
}

// rectsAround returns rectangles for the points of ps: with and without points, that begin and end at points and beside
// them, that are the wrong way round, and that have sides far beyond all points.
func rectsAround(ps []api.Point) []api.Rect {
	rects := []api.Rect{
		everywhere,
		rect(-most, -most, most, most),
		rect(-most, -most, 0, 0),
		rect(0, 0, most, most),
		rect(1-most, 1-most, most-1, most-1),
		rect(math.MinInt, math.MinInt, 0, 0),
		rect(0, 0, math.MaxInt, math.MaxInt),
		// Beside all points.
		rect(math.MinInt, math.MinInt, -most-1, math.MaxInt),
		rect(most+1, math.MinInt, math.MaxInt, math.MaxInt),
		rect(math.MinInt, math.MinInt, math.MaxInt, -most-1),
		rect(math.MinInt, most+1, math.MaxInt, math.MaxInt),
		// The wrong way round.
		rect(math.MaxInt, math.MinInt, math.MinInt, math.MaxInt),
		rect(math.MinInt, math.MaxInt, math.MaxInt, math.MinInt),
		rect(math.MaxInt, math.MaxInt, math.MinInt, math.MinInt),
		rect(most, -most, -most, most),
		rect(-most, most, most, -most),
		rect(1, -most, 0, most),
		rect(-most, 1, most, 0),
	}
	next := mixer(len(ps))
	for range 5 {
		p, q := ps[next(0, len(ps)-1)], ps[next(0, len(ps)-1)]
		rects = append(rects,
			rect(p.X, p.Y, p.X, p.Y),
			rect(p.X, p.Y, q.X, q.Y),
			rect(min(p.X, q.X), min(p.Y, q.Y), max(p.X, q.X), max(p.Y, q.Y)),
			rect(p.X-next(0, 1), math.MinInt, q.X+next(0, 1), q.Y-next(0, 1)),
			rect(math.MinInt, p.Y+next(0, 1), q.X, math.MaxInt))
	}
	return rects
}

// isIn reports whether p is in r.
func isIn(p api.Point, r api.Rect) bool {
	return p.X >= r.X0 && p.X <= r.X1 && p.Y >= r.Y0 && p.Y <= r.Y1
}

// within returns the indices of the points in r in increasing order.
func within(ps []api.Point, r api.Rect) []int {
	var points []int
	for i, p := range ps {
		if isIn(p, r) {
			points = append(points, i)
		}
	}
	return points
}

// arrange puts each of the points where as many points are before it as compare says come before it.
func arrange(points []int, compare func(i, j int) int) []int {
	arranged := make([]int, len(points))
	for _, i := range points {
		place := 0
		for _, j := range points {
			if compare(j, i) < 0 {
				place++
			}
		}
		arranged[place] = i
	}
	return arranged
}

// byX, byY and byWeight return the indices of the points in r in the orders of Report, Kth and Top.
func byX(ps []api.Point, r api.Rect) []int {
	return arrange(within(ps, r), func(i, j int) int {
		return cmp.Or(cmp.Compare(ps[i].X, ps[j].X), cmp.Compare(ps[i].Y, ps[j].Y), cmp.Compare(i, j))
	})
}

func byY(ps []api.Point, r api.Rect) []int {
	return arrange(within(ps, r), func(i, j int) int {
		return cmp.Or(cmp.Compare(ps[i].Y, ps[j].Y), cmp.Compare(ps[i].X, ps[j].X), cmp.Compare(i, j))
	})
}

func byWeight(ps []api.Point, r api.Rect) []int {
	return arrange(within(ps, r), func(i, j int) int {
		return cmp.Or(cmp.Compare(ps[j].W, ps[i].W), cmp.Compare(i, j))
	})
}

func checkCount(t *testing.T, ps []api.Point, r api.Rect, want int) {
	t.Helper()
	if got, err := grid.Count(ps, r); err != api.OK || got != want {
		t.Errorf("Count(%v, %v) = %d, %d; want %d, 0", ps, r, got, err, want)
	}
}

func checkReport(t *testing.T, ps []api.Point, r api.Rect, want []int) {
	t.Helper()
	if got, err := grid.Report(ps, r); err != api.OK || !slices.Equal(got, want) {
		t.Errorf("Report(%v, %v) = %v, %d; want %v, 0", ps, r, got, err, want)
	}
}

func checkKth(t *testing.T, ps []api.Point, r api.Rect, k, want int) {
	t.Helper()
	if got, err := grid.Kth(ps, r, k); err != api.OK || got != want {
		t.Errorf("Kth(%v, %v, %d) = %d, %d; want %d, 0", ps, r, k, got, err, want)
	}
}

func checkTop(t *testing.T, ps []api.Point, r api.Rect, k int, want []int) {
	t.Helper()
	if got, err := grid.Top(ps, r, k); err != api.OK || !slices.Equal(got, want) {
		t.Errorf("Top(%v, %v, %d) = %v, %d; want %v, 0", ps, r, k, got, err, want)
	}
}

func checkNoKth(t *testing.T, ps []api.Point, r api.Rect, k int, want api.Errno) {
	t.Helper()
	if got, err := grid.Kth(ps, r, k); err != want || got != 0 {
		t.Errorf("Kth(%v, %v, %d) = %d, %d; want 0, %d", ps, r, k, got, err, want)
	}
}

func checkNoTop(t *testing.T, ps []api.Point, r api.Rect, k int, want api.Errno) {
	t.Helper()
	if got, err := grid.Top(ps, r, k); err != want || len(got) != 0 {
		t.Errorf("Top(%v, %v, %d) = %v, %d; want [], %d", ps, r, k, got, err, want)
	}
}

// checkQueries checks the answers of all queries about r, with each of the numbers ks, compared with the definition.
func checkQueries(t *testing.T, ps []api.Point, r api.Rect, ks []int) {
	t.Helper()
	checkReport(t, ps, r, byX(ps, r))
	rising, heavy := byY(ps, r), byWeight(ps, r)
	count := len(rising)
	checkCount(t, ps, r, count)
	for _, k := range ks {
		switch {
		case k < 0:
			checkNoKth(t, ps, r, k, api.ErrRange)
			checkNoTop(t, ps, r, k, api.ErrRange)
		case k < count:
			checkKth(t, ps, r, k, rising[k])
			checkTop(t, ps, r, k, heavy[:k])
		default:
			checkNoKth(t, ps, r, k, api.ErrNone)
			checkTop(t, ps, r, k, heavy)
		}
	}
}

// checkAll checks all functions for a valid list ps and r, with numbers k around 0 and the number of points in r, and
// far from both.
func checkAll(t *testing.T, ps []api.Point, r api.Rect) {
	t.Helper()
	if err := grid.Check(ps); err != api.OK {
		t.Errorf("Check(%v) = %d; want 0", ps, err)
	}
	count := len(within(ps, r))
	checkQueries(t, ps, r, []int{0, 1, count / 2, count - 1, count, count + 1, math.MaxInt, -1, math.MinInt})
}

// checkInvalid checks that all functions return an error, whatever the rectangle and k are.
func checkInvalid(t *testing.T, ps []api.Point, want api.Errno) {
	t.Helper()
	if err := grid.Check(ps); err != want {
		t.Errorf("Check(%v) = %d; want %d", ps, err, want)
	}
	for _, r := range []api.Rect{everywhere, {}, rect(0, 0, 5, 5), rect(1, 1, 0, 0), rect(most+1, 0, most+2, 0)} {
		if got, err := grid.Count(ps, r); err != want || got != 0 {
			t.Errorf("Count(%v, %v) = %d, %d; want 0, %d", ps, r, got, err, want)
		}
		if got, err := grid.Report(ps, r); err != want || len(got) != 0 {
			t.Errorf("Report(%v, %v) = %v, %d; want [], %d", ps, r, got, err, want)
		}
		for _, k := range []int{0, 1, api.MaxPoints, math.MaxInt, -1, math.MinInt} {
			checkNoKth(t, ps, r, k, want)
			checkNoTop(t, ps, r, k, want)
		}
	}
}

func TestExamples(t *testing.T) {
	ps := []api.Point{point(1, 1, 0), point(2, 3, 0), point(4, 2, 0)}
	r := rect(1, 1, 3, 3)
	checkCount(t, ps, r, 2)
	checkReport(t, ps, r, []int{0, 1})
	checkKth(t, ps, r, 1, 1)
	checkTop(t, ps, r, 0, nil)
	checkInvalid(t, []api.Point{point(most+1, 0, 0)}, api.ErrRange)
	// With a fourth point, as in DOC.md.
	ps = append(ps, point(2, 1, 0))
	checkCount(t, ps, r, 3)
	checkReport(t, ps, r, []int{0, 3, 1})
	checkKth(t, ps, r, 1, 3)
}

func TestOrders(t *testing.T) {
	ps := []api.Point{
		point(3, 1, 4), point(1, 3, -4), point(2, 2, 9), point(1, 3, 4), point(3, 3, 0), point(1, 1, 9), point(-1, 3, 4),
		point(3, 1, 4), point(3, -1, -9), point(9, 9, 99),
	}
	r := rect(-1, -1, 3, 3)
	checkCount(t, ps, r, 9)
	checkReport(t, ps, r, []int{6, 5, 1, 3, 2, 8, 0, 7, 4})
	for k, want := range []int{8, 5, 0, 7, 2, 6, 1, 3, 4} {
		checkKth(t, ps, r, k, want)
	}
	checkNoKth(t, ps, r, 9, api.ErrNone)
	heavy := []int{2, 5, 0, 3, 6, 7, 4, 1, 8}
	for k := range heavy {
		checkTop(t, ps, r, k, heavy[:k])
	}
	checkTop(t, ps, r, 9, heavy)
	checkTop(t, ps, r, 10, heavy)
	checkTop(t, ps, everywhere, 3, []int{9, 2, 5})
}

func TestOrderOfEqualPoints(t *testing.T) {
	for _, p := range []api.Point{{}, point(1, 2, 3), point(-most, most, -most)} {
		ps := fill(4, func(int) api.Point { return p })
		for _, r := range []api.Rect{everywhere, rect(p.X, p.Y, p.X, p.Y)} {
			checkReport(t, ps, r, []int{0, 1, 2, 3})
			for k := range 4 {
				checkKth(t, ps, r, k, k)
			}
			checkTop(t, ps, r, 3, []int{0, 1, 2})
			checkTop(t, ps, r, 4, []int{0, 1, 2, 3})
		}
	}
}

func TestOrderOfWeightsAlone(t *testing.T) {
	// The weight counts for Top alone.
	ps := []api.Point{point(2, 2, -1), point(2, 2, most), point(2, 2, -most), point(2, 2, 0), point(2, 2, most)}
	r := rect(2, 2, 2, 2)
	checkReport(t, ps, r, []int{0, 1, 2, 3, 4})
	for k := range 5 {
		checkKth(t, ps, r, k, k)
	}
	checkTop(t, ps, r, 1, []int{1})
	checkTop(t, ps, r, 2, []int{1, 4})
	checkTop(t, ps, r, 4, []int{1, 4, 3, 0})
	checkTop(t, ps, r, 5, []int{1, 4, 3, 0, 2})
}

func TestOneCoordinateDiffers(t *testing.T) {
	ps := []api.Point{point(7, 1, 0), point(7, -1, 0), point(7, most, 0), point(7, -most, 0), point(7, 0, 0)}
	checkReport(t, ps, everywhere, []int{3, 1, 4, 0, 2})
	for k, want := range []int{3, 1, 4, 0, 2} {
		checkKth(t, ps, everywhere, k, want)
	}
	checkReport(t, ps, rect(7, -1, 7, 1), []int{1, 4, 0})
	for i, p := range ps {
		ps[i].X, ps[i].Y = p.Y, p.X
	}
	checkReport(t, ps, everywhere, []int{3, 1, 4, 0, 2})
	for k, want := range []int{3, 1, 4, 0, 2} {
		checkKth(t, ps, everywhere, k, want)
	}
	checkReport(t, ps, rect(-1, 7, 1, 7), []int{1, 4, 0})
}

func TestNoPoints(t *testing.T) {
	roomy := []api.Point{point(0, 0, 0), point(most+1, 0, 0)}
	for _, ps := range [][]api.Point{nil, {}, roomy[:0]} {
		for _, r := range append(rectsAround(roomy[:1]), api.Rect{}) {
			checkAll(t, ps, r)
		}
		checkNoKth(t, ps, everywhere, 0, api.ErrNone)
		checkTop(t, ps, everywhere, 0, nil)
		checkTop(t, ps, everywhere, math.MaxInt, nil)
	}
}

func TestSidesAndCorners(t *testing.T) {
	r := rect(-2, 3, 4, 7)
	inside := []api.Point{
		point(-2, 3, 0), point(4, 3, 0), point(-2, 7, 0), point(4, 7, 0), // corners
		point(-2, 5, 0), point(4, 5, 0), point(0, 3, 0), point(0, 7, 0), // sides
		point(0, 5, 0), point(-1, 4, 0), point(3, 6, 0),
	}
	outside := []api.Point{
		point(-3, 3, 0), point(-2, 2, 0), point(5, 3, 0), point(4, 2, 0), point(-3, 7, 0), point(-2, 8, 0),
		point(5, 7, 0), point(4, 8, 0), point(-3, 5, 0), point(5, 5, 0), point(0, 2, 0), point(0, 8, 0),
		point(-most, 5, 0), point(most, 5, 0), point(0, -most, 0), point(0, most, 0),
	}
	checkCount(t, inside, r, len(inside))
	checkCount(t, outside, r, 0)
	checkCount(t, slices.Concat(outside, inside), r, len(inside))
	for _, p := range inside {
		checkCount(t, []api.Point{p}, r, 1)
		checkReport(t, []api.Point{p}, r, []int{0})
		checkReport(t, append(outside, p), r, []int{len(outside)})
		checkKth(t, append(outside, p), r, 0, len(outside))
		checkTop(t, append(outside, p), r, 1, []int{len(outside)})
	}
	for _, p := range outside {
		checkCount(t, []api.Point{p}, r, 0)
		checkReport(t, []api.Point{p}, r, nil)
		checkNoKth(t, []api.Point{p}, r, 0, api.ErrNone)
		checkTop(t, []api.Point{p}, r, 1, nil)
	}
}

func TestRectanglesTheWrongWayRound(t *testing.T) {
	ps := []api.Point{point(0, 0, 0), point(1, 1, 1), point(2, 2, 2), point(1, 0, 3), point(0, 1, 4)}
	for _, r := range []api.Rect{rect(1, 0, 0, 2), rect(0, 1, 2, 0), rect(2, 2, 0, 0), rect(2, 0, 0, 2), rect(0, 2, 2, 0),
		rect(1, -5, -1, 5), rect(math.MaxInt, 0, math.MinInt, 2), rect(0, math.MaxInt, 2, math.MinInt),
		rect(0, 0, math.MinInt, math.MaxInt), rect(math.MaxInt, 0, 0, 2)} {
		checkCount(t, ps, r, 0)
		checkReport(t, ps, r, nil)
		checkNoKth(t, ps, r, 0, api.ErrNone)
		checkTop(t, ps, r, 5, nil)
		checkAll(t, ps, r)
	}
}

func TestSidesBeyondAllPoints(t *testing.T) {
	ps := []api.Point{point(-most, -most, 1), point(most, most, 2), point(-most, most, 3), point(most, -most, 4)}
	for _, far := range []int{0, 1, 2, 1 << 21, 1 << 32, 1 << 42, 1 << 62, math.MaxInt - most} {
		checkReport(t, ps, rect(-most-far, -most-far, most+far, most+far), []int{0, 2, 3, 1})
		checkReport(t, ps, rect(most, -most-far, most+far, most+far), []int{3, 1})
		checkReport(t, ps, rect(-most-far, -most, -most, most+far), []int{0, 2})
		checkReport(t, ps, rect(-most-far, most, most+far, most+far), []int{2, 1})
		checkReport(t, ps, rect(-most-far, -most-far, most+far, -most), []int{0, 3})
		if far > 0 {
			checkReport(t, ps, rect(most+1, -most, most+far, most), nil)
			checkReport(t, ps, rect(-most-far, -most, -most-1, most), nil)
			checkReport(t, ps, rect(-most, most+1, most, most+far), nil)
			checkReport(t, ps, rect(-most, -most-far, most, -most-1), nil)
		}
	}
	checkReport(t, ps, everywhere, []int{0, 2, 3, 1})
}

func TestEachSmallList(t *testing.T) {
	t.Parallel()
	ks := []int{-1, 0, 1, 2, 3, 4}
	eachList(kindsOf([]int{0, 1}, []int{0, 1}), 3, func(ps []api.Point) {
		eachRect([]int{-1, 0, 1, 2}, func(r api.Rect) { checkQueries(t, ps, r, ks) })
	})
}

func TestEachPairOfPoints(t *testing.T) {
	t.Parallel()
	ks := []int{-1, 0, 1, 2, 3}
	eachList(kindsOf([]int{-1, 0, 1}, []int{-1, 1}), 2, func(ps []api.Point) {
		eachRect([]int{-2, -1, 0, 1, 2}, func(r api.Rect) { checkQueries(t, ps, r, ks) })
	})
}

func TestEachListOfFourPoints(t *testing.T) {
	t.Parallel()
	ks := []int{0, 1, 2, 3, 4, 5}
	eachList(kindsOf([]int{0, 1}, []int{-1, 0}), 4, func(ps []api.Point) {
		eachRect([]int{0, 1}, func(r api.Rect) { checkQueries(t, ps, r, ks) })
	})
}

func TestEachListOfWeights(t *testing.T) {
	t.Parallel()
	ks := []int{0, 1, 2, 3, 4, 5, 6}
	eachList(kindsOf([]int{2}, []int{-most, 0, most}), 5, func(ps []api.Point) {
		checkQueries(t, ps, everywhere, ks)
		checkQueries(t, ps, rect(2, 2, 2, 2), ks)
		checkQueries(t, ps, rect(2, 3, 2, 3), ks)
	})
}

func TestEachListAtTheEnds(t *testing.T) {
	t.Parallel()
	sides := []int{math.MinInt, -most - 1, -most, most, most + 1, math.MaxInt}
	eachList(kindsOf([]int{-most, most}, []int{0}), 2, func(ps []api.Point) {
		eachRect(sides, func(r api.Rect) { checkQueries(t, ps, r, []int{0, 1, math.MaxInt}) })
	})
}

func TestShapes(t *testing.T) {
	t.Parallel()
	for _, n := range lengths {
		for _, ps := range shapes(n) {
			for _, r := range rectsAround(ps) {
				checkAll(t, ps, r)
			}
		}
	}
}

func TestShapesOfEachLength(t *testing.T) {
	t.Parallel()
	for n := 1; n <= api.MaxPoints; n++ {
		for _, ps := range [][]api.Point{mixed(n, -5, 5), mixed(n, -most, most)} {
			checkAll(t, ps, everywhere)
			checkAll(t, ps, rect(-most/2, -most/2, most/2, most/2))
			checkAll(t, ps, rect(-2, 0, 3, 1))
		}
	}
}

func TestEachK(t *testing.T) {
	t.Parallel()
	for _, ps := range shapes(api.MaxPoints) {
		ks := slices.Concat(negative, large)
		for k := range api.MaxPoints + 1 {
			ks = append(ks, k)
		}
		checkQueries(t, ps, everywhere, ks)
		checkQueries(t, ps, rect(-3, -1, 4, most), ks)
	}
}

func TestCheck(t *testing.T) {
	for _, ps := range [][]api.Point{nil, {}, {{}}} {
		if err := grid.Check(ps); err != api.OK {
			t.Errorf("Check(%v) = %d; want 0", ps, err)
		}
	}
	for _, n := range lengths {
		for _, field := range fields {
			for _, x := range []int{-most, 1 - most, -1, 0, 1, most - 1, most} {
				for _, i := range []int{0, n / 2, n - 1} {
					if ps := with(make([]api.Point, n), i, field, x); grid.Check(ps) != api.OK {
						t.Errorf("Check(%v) = %d; want 0", ps, grid.Check(ps))
					}
				}
			}
		}
	}
}

func TestTooManyPoints(t *testing.T) {
	for _, n := range tooMany {
		checkInvalid(t, make([]api.Point, n), api.ErrSize)
		checkInvalid(t, mixed(n, -most, most), api.ErrSize)
		// One of them is out of range, too.
		for _, field := range fields {
			for _, i := range []int{0, n / 2, n - 1} {
				checkInvalid(t, with(make([]api.Point, n), i, field, most+1), api.ErrSize)
				checkInvalid(t, with(make([]api.Point, n), i, field, math.MinInt), api.ErrSize)
			}
		}
	}
}

func TestNumbersOutOfRange(t *testing.T) {
	for _, n := range []int{1, 2, 3, 64, api.MaxPoints - 1, api.MaxPoints} {
		for _, field := range fields {
			for _, x := range beyond {
				for _, i := range []int{0, n / 2, n - 1} {
					checkInvalid(t, with(make([]api.Point, n), i, field, x), api.ErrRange)
				}
			}
		}
	}
	for _, x := range beyond {
		checkInvalid(t, []api.Point{point(x, x, x)}, api.ErrRange)
		checkInvalid(t, []api.Point{point(0, x, -x), point(x, 0, 0)}, api.ErrRange)
	}
	for i := range api.MaxPoints {
		for _, field := range fields {
			if ps := with(mixed(api.MaxPoints, -9, 9), i, field, -most-1); grid.Check(ps) != api.ErrRange {
				t.Errorf("Check(%v) = %d; want %d", ps, grid.Check(ps), api.ErrRange)
			}
		}
	}
}

func TestNegativeK(t *testing.T) {
	for _, ps := range [][]api.Point{nil, {{}}, mixed(5, -1, 1), mixed(api.MaxPoints, -most, most)} {
		for _, r := range append(rectsAround([]api.Point{{}}), rect(5, 5, 4, 4)) {
			for _, k := range negative {
				checkNoKth(t, ps, r, k, api.ErrRange)
				checkNoTop(t, ps, r, k, api.ErrRange)
			}
		}
	}
}

func TestTooLargeK(t *testing.T) {
	// Points with smaller and with larger Y are beside the rectangle: none of them may come for one that is not there.
	ps := []api.Point{point(0, 0, 0), point(0, 1, 0), point(0, 2, 0), point(0, 3, 0), point(1, 1, 9)}
	r := rect(0, 1, 0, 2)
	for _, k := range append([]int{2, 3, 4, 5}, large...) {
		checkNoKth(t, ps, r, k, api.ErrNone)
		checkTop(t, ps, r, k, []int{1, 2})
		checkNoKth(t, ps, rect(2, 0, 2, 3), k, api.ErrNone)
		checkTop(t, ps, rect(2, 0, 2, 3), k, nil)
	}
	checkTop(t, ps, r, 1, []int{1})
}

// roomy returns a copy of ps with points in its spare capacity, the last one of which is out of range.
func roomy(ps []api.Point) []api.Point {
	return append(slices.Clone(ps), point(0, 0, most), point(1, -1, 1), point(2, 2, most+1))[:len(ps)]
}

func TestListIsNotChanged(t *testing.T) {
	for _, n := range append([]int{0}, lengths...) {
		lists := [][]api.Point{nil}
		if n > 0 {
			lists = shapes(n)
		}
		for _, l := range lists {
			ps := roomy(l)
			whole := slices.Clone(ps[:cap(ps)])
			for _, r := range []api.Rect{everywhere, rect(0, 0, 3, 3), rect(1, 1, 0, 0)} {
				checkAll(t, ps, r)
			}
			if !slices.Equal(ps[:cap(ps)], whole) {
				t.Errorf("the list changed: %v; want %v", ps[:cap(ps)], whole)
			}
		}
	}
}

func TestInvalidListIsNotChanged(t *testing.T) {
	for _, l := range [][]api.Point{mixed(api.MaxPoints+1, -5, 5), with(mixed(9, -5, 5), 4, fields[1], -most-1)} {
		ps := roomy(l)
		whole := slices.Clone(ps[:cap(ps)])
		checkInvalid(t, ps, grid.Check(l))
		if !slices.Equal(ps[:cap(ps)], whole) {
			t.Errorf("the list changed: %v; want %v", ps[:cap(ps)], whole)
		}
	}
}

// stamp sets each element of l, also in its spare capacity, to a number that is no index.
func stamp(l []int) {
	spare := l[:cap(l)]
	for i := range spare {
		spare[i] = -77777
	}
}

// reports returns the lists that Report and Top return for r.
func reports(ps []api.Point, r api.Rect) [][]int {
	report, _ := grid.Report(ps, r)
	two, _ := grid.Top(ps, r, 2)
	all, _ := grid.Top(ps, r, math.MaxInt)
	return [][]int{report, two, all}
}

func TestResultsAreApart(t *testing.T) {
	for _, n := range lengths {
		for _, l := range shapes(n) {
			ps := roomy(l)
			whole := slices.Clone(ps[:cap(ps)])
			for _, r := range []api.Rect{everywhere, rect(-1, -1, 1, 1), rect(1, 1, 0, 0)} {
				first, second := reports(ps, r), reports(ps, r)
				for _, l := range first {
					stamp(l)
				}
				if !slices.EqualFunc(second, reports(l, r), slices.Equal) {
					t.Errorf("%v and %v: the results changed with those of other calls: %v", ps, r, second)
				}
				if !slices.Equal(ps[:cap(ps)], whole) {
					t.Errorf("the list changed with the results: %v; want %v", ps[:cap(ps)], whole)
				}
			}
		}
	}
}

func TestChangedListChangesNoResult(t *testing.T) {
	for _, n := range lengths {
		for _, l := range shapes(n) {
			ps := roomy(l)
			results := reports(ps, everywhere)
			clear(ps[:cap(ps)])
			if !slices.EqualFunc(results, reports(l, everywhere), slices.Equal) {
				t.Errorf("%v: the results changed with the list: %v", l, results)
			}
		}
	}
}
