package sky_test

import (
	"cmp"
	"math"
	"slices"
	"testing"

	"damask/api"
	"damask/grid"
	"damask/sky"
)

// most is the largest coordinate and the largest weight.
const most = api.MaxCoord

var (
	// beyond are numbers that are no coordinate and no weight.
	beyond = []int{math.MinInt, math.MinInt + 1, -1 << 62, -1 << 32, -1 << 21, -most - 2, -most - 1, most + 1, most + 2,
		1 << 21, 1 << 32, 1 << 62, math.MaxInt - 1, math.MaxInt}
	// lengths are numbers of points, around powers of 2 and the largest one that is allowed.
	lengths = []int{1, 2, 3, 4, 7, 8, 9, 31, 32, 33, 63, 64, 65, 127, 128, 129, api.MaxPoints - 1, api.MaxPoints}
	// tooMany are numbers of points that are not allowed.
	tooMany = []int{api.MaxPoints + 1, api.MaxPoints + 2, 2 * api.MaxPoints, api.MaxList, api.MaxList + 1, 512, 1 << 16}
	// fields are the numbers of a point.
	fields = []func(p *api.Point) *int{
		func(p *api.Point) *int { return &p.X },
		func(p *api.Point) *int { return &p.Y },
		func(p *api.Point) *int { return &p.W },
	}
)

func point(x, y, w int) api.Point {
	return api.Point{X: x, Y: y, W: w}
}

// fill returns the list of n points in which point i is f(i).
func fill(n int, f func(i int) api.Point) []api.Point {
	ps := make([]api.Point, n)
	for i := range ps {
		ps[i] = f(i)
	}
	return ps
}

// with returns a copy of ps in which a field of point i is x.
func with(ps []api.Point, i int, field func(p *api.Point) *int, x int) []api.Point {
	c := slices.Clone(ps)
	*field(&c[i]) = x
	return c
}

// numbers returns f(0), ..., f(n - 1).
func numbers(n int, f func(i int) int) []int {
	l := make([]int, n)
	for i := range l {
		l[i] = f(i)
	}
	return l
}

// same returns a function whose result is always x, and itself one whose result is always its argument.
func same(x int) func(int) int {
	return func(int) int { return x }
}

func itself(i int) int {
	return i
}

// mixer returns a function that returns fixed mixed numbers from low to high, the same ones for the same seed.
func mixer(seed int) func(low, high int) int {
	state := uint64(seed)
	return func(low, high int) int {
		state = state*6364136223846793005 + 1442695040888963407
		return low + int(state>>33)%(high-low+1)
	}
}

// mixed returns n mixed points whose coordinates and weights are from low to high.
func mixed(n, low, high int) []api.Point {
	next := mixer(n + 7*high)
	return fill(n, func(int) api.Point { return point(next(low, high), next(low, high), next(low, high)) })
}

// spread returns the number with index i of n numbers, at least one, that rise from -most to most; one number is -most.
func spread(i, n int) int {
	return -most + 2*most*i/max(n-1, 1)
}

// shapes returns lists of n points, at least one.
func shapes(n int) [][]api.Point {
	ends := []int{-most, most, 0}
	next := mixer(n)
	return [][]api.Point{
		// Steps: neighbors in the list share a coordinate.
		fill(n, func(i int) api.Point { return point(i/2, (i+1)/2, -i) }),
		fill(n, func(i int) api.Point { return point(-(i+1)/2, -i/2, i) }),
		fill(n, func(i int) api.Point { return point(i/2, -(i+1)/2, 0) }),
		fill(n, func(i int) api.Point { return point(-(i+1)/2, i/2, 0) }),
		// Chains beside each other, and layers below each other, each of equal and of different length.
		fill(n, func(i int) api.Point { return point(i%5+i/5, i/5-i%5, 1) }),
		fill(n, func(i int) api.Point { return point(100*(i%5)+i/5, i/5-100*(i%5), 1) }),
		fill(n, func(i int) api.Point { return point(i%12-i/12, -(i%12)-i/12, i%3) }),
		fill(n, func(i int) api.Point { return point(i*i%31, i*i%29-i, 0) }),
		// Only the first, the last or the middle point is not dominated.
		with(with(mixed(n, -9, 9), 0, fields[0], 10), 0, fields[1], 10),
		with(with(mixed(n, -9, 9), n-1, fields[0], 10), n-1, fields[1], 10),
		with(with(mixed(n, -9, 9), n/2, fields[0], 10), n/2, fields[1], 10),
		// The same places over and over.
		fill(n, func(i int) api.Point { return point(i%3, -(i % 3), i) }),
		fill(n, func(i int) api.Point { return point(i%3, i%3, -i) }),
		fill(n, func(i int) api.Point { return point(i%3-1, i/3%3-1, i/9) }),
		fill(n, func(i int) api.Point { return point(i/3, 7-i/3, i%2) }),
		// Spread over all coordinates.
		fill(n, func(i int) api.Point { return point(spread(i, n), spread(i*37%n, n), spread(i*41%n, n)) }),
		fill(n, func(i int) api.Point { return point(spread(i*37%n, n), -spread(i, n), 0) }),
		// At the ends of what is allowed.
		fill(n, func(i int) api.Point { return point(ends[i%3], ends[i/3%3], ends[i/9%3]) }),
		fill(n, func(int) api.Point { return point(ends[next(0, 1)], ends[next(0, 1)], ends[next(0, 1)]) }),
		// Mixed ones, close together and far apart.
		mixed(n, 0, 1),
		mixed(n, -2, 2),
		mixed(n, -20, 20),
		mixed(n, -most, most),
	}
}

// eachList calls f with all lists of up to n points that are among kinds.
func eachList(kinds []api.Point, n int, f func(ps []api.Point)) {
	var extend func(start []api.Point)
	extend = func(start []api.Point) {
		f(slices.Clone(start))
		if len(start) < n {
			for _, p := range kinds {
				extend(append(start, p))
			}
		}
	}
	extend(make([]api.Point, 0, n))
}

// kindsOf returns all points with coordinates among xs and weights among ws.
func kindsOf(xs, ws []int) []api.Point {
	var kinds []api.Point
	for _, x := range xs {
		for _, y := range xs {
			for _, w := range ws {
				kinds = append(kinds, point(x, y, w))
			}
		}
	}
	return kinds
}

// dominates reports whether p dominates q.
func dominates(p, q api.Point) bool {
	return p.X >= q.X && p.Y >= q.Y && (p.X > q.X || p.Y > q.Y)
}

// pairs returns for each point the indices of the points that it dominates, and of those that dominate it.
func pairs(ps []api.Point) (below, above [][]int) {
	below, above = make([][]int, len(ps)), make([][]int, len(ps))
	for i, p := range ps {
		for j, q := range ps {
			if dominates(p, q) {
				below[i] = append(below[i], j)
				above[j] = append(above[j], i)
			}
		}
	}
	return below, above
}

// maximal returns the indices of the points with no point above them: each one is put where as many points are before
// it as come before it by X, then by Y, then by index.
func maximal(ps []api.Point, above [][]int) []int {
	var points []int
	for i := range ps {
		if len(above[i]) == 0 {
			points = append(points, i)
		}
	}
	sorted := make([]int, len(points))
	for _, i := range points {
		place := 0
		for _, j := range points {
			if cmp.Or(cmp.Compare(ps[j].X, ps[i].X), cmp.Compare(ps[j].Y, ps[i].Y), cmp.Compare(j, i)) < 0 {
				place++
			}
		}
		sorted[place] = i
	}
	return sorted
}

// layersBelow returns the layer of each point, given the points above each of them.
func layersBelow(above [][]int) []int {
	layers := numbers(len(above), same(-1))
	var find func(i int) int
	find = func(i int) int {
		if layers[i] < 0 {
			layer := 0
			for _, j := range above[i] {
				layer = max(layer, find(j)+1)
			}
			layers[i] = layer
		}
		return layers[i]
	}
	for i := range above {
		find(i)
	}
	return layers
}

func checkSky(t *testing.T, ps []api.Point, want []int) {
	t.Helper()
	if got, err := sky.Sky(ps); err != api.OK || !slices.Equal(got, want) {
		t.Errorf("Sky(%v) = %v, %d; want %v, 0", ps, got, err, want)
	}
}

func checkLayers(t *testing.T, ps []api.Point, want []int) {
	t.Helper()
	if got, err := sky.Layers(ps); err != api.OK || !slices.Equal(got, want) {
		t.Errorf("Layers(%v) = %v, %d; want %v, 0", ps, got, err, want)
	}
}

// checkUnder checks the numbers of points that the points of ps dominate, and that there are no other points.
func checkUnder(t *testing.T, ps []api.Point, want []int) {
	t.Helper()
	for i := range ps {
		if got, err := sky.Under(ps, i); err != api.OK || got != want[i] {
			t.Errorf("Under(%v, %d) = %d, %d; want %d, 0", ps, i, got, err, want[i])
		}
	}
	for _, i := range []int{-1, len(ps), math.MinInt, math.MaxInt} {
		checkNoUnder(t, ps, i, api.ErrRange)
	}
}

func checkNoUnder(t *testing.T, ps []api.Point, i int, want api.Errno) {
	t.Helper()
	if got, err := sky.Under(ps, i); err != want || got != 0 {
		t.Errorf("Under(%v, %d) = %d, %d; want 0, %d", ps, i, got, err, want)
	}
}

// checkResults checks the results of all functions.
func checkResults(t *testing.T, ps []api.Point, sky, layers, under []int) {
	t.Helper()
	checkSky(t, ps, sky)
	checkLayers(t, ps, layers)
	checkUnder(t, ps, under)
}

// checkAll checks all functions for a valid list, compared with the definition.
func checkAll(t *testing.T, ps []api.Point) {
	t.Helper()
	below, above := pairs(ps)
	under := numbers(len(ps), func(i int) int { return len(below[i]) })
	checkResults(t, ps, maximal(ps, above), layersBelow(above), under)
}

// checkInvalid checks that all functions return an error, whatever the index is.
func checkInvalid(t *testing.T, ps []api.Point, want api.Errno) {
	t.Helper()
	if got, err := sky.Sky(ps); err != want || len(got) != 0 {
		t.Errorf("Sky(%v) = %v, %d; want [], %d", ps, got, err, want)
	}
	if got, err := sky.Layers(ps); err != want || len(got) != 0 {
		t.Errorf("Layers(%v) = %v, %d; want [], %d", ps, got, err, want)
	}
	for _, i := range []int{0, len(ps) - 1, len(ps), -1, math.MinInt, math.MaxInt} {
		checkNoUnder(t, ps, i, want)
	}
}

func TestExamples(t *testing.T) {
	ps := []api.Point{point(1, 1, 0), point(2, 3, 0), point(4, 2, 0)}
	checkResults(t, ps, []int{1, 2}, []int{1, 0, 0}, []int{0, 1, 1})
	// With a fourth point, as in DOC.md, and one that is equal to the third one.
	ps = append(ps, point(2, 1, 0))
	checkResults(t, ps, []int{1, 2}, []int{2, 0, 0, 1}, []int{0, 2, 2, 1})
	ps = append(ps, point(4, 2, 0))
	checkResults(t, ps, []int{1, 2, 4}, []int{2, 0, 0, 1, 0}, []int{0, 2, 2, 1, 2})
}

func TestNoPoints(t *testing.T) {
	for _, ps := range [][]api.Point{nil, {}, mixed(9, -5, 5)[:0]} {
		checkResults(t, ps, nil, nil, nil)
		for _, i := range []int{0, 1, -1, math.MinInt, math.MaxInt} {
			checkNoUnder(t, ps, i, api.ErrRange)
		}
	}
}

func TestOnePoint(t *testing.T) {
	for _, p := range kindsOf([]int{-most, -1, 0, 1, most}, []int{-most, 0, most}) {
		checkResults(t, []api.Point{p}, []int{0}, []int{0}, []int{0})
	}
}

func TestEqualPoints(t *testing.T) {
	t.Parallel()
	for _, n := range lengths {
		all, none := numbers(n, itself), numbers(n, same(0))
		for _, x := range []int{-most, 0, 5} {
			for _, y := range []int{-3, 0, most} {
				checkResults(t, fill(n, func(int) api.Point { return point(x, y, 1) }), all, none, none)
				// The weight does not count.
				checkResults(t, fill(n, func(i int) api.Point { return point(x, y, i) }), all, none, none)
				checkResults(t, fill(n, func(i int) api.Point { return point(x, y, i%3-i) }), all, none, none)
			}
		}
	}
}

func TestSeveralEqualMaximalPoints(t *testing.T) {
	p, q, r := point(3, 4, 1), point(4, 3, 2), point(2, 2, 3)
	checkResults(t, []api.Point{p, p, p, r}, []int{0, 1, 2}, []int{0, 0, 0, 1}, []int{1, 1, 1, 0})
	checkResults(t, []api.Point{r, q, r, p, q, p, r}, []int{3, 5, 1, 4}, []int{1, 0, 1, 0, 0, 0, 1},
		[]int{0, 3, 0, 3, 3, 3, 0})
	// Equal points that are dominated are all of the same layer, and dominate the same points.
	s := point(-1, 2, 0)
	checkResults(t, []api.Point{s, r, p, r, s, q}, []int{2, 5}, []int{2, 1, 0, 1, 2, 0}, []int{0, 2, 4, 2, 0, 4})
}

func TestOneCoordinateDiffers(t *testing.T) {
	ps := []api.Point{point(7, 1, 0), point(7, -1, 0), point(7, most, 0), point(7, -most, 0), point(7, 0, 0)}
	checkResults(t, ps, []int{2}, []int{1, 3, 0, 4, 2}, []int{3, 1, 4, 0, 2})
	for i, p := range ps {
		ps[i].X, ps[i].Y = p.Y, p.X
	}
	checkResults(t, ps, []int{2}, []int{1, 3, 0, 4, 2}, []int{3, 1, 4, 0, 2})
	// Three points at a corner.
	ps = []api.Point{point(0, 0, 0), point(1, 0, 0), point(0, 1, 0)}
	checkResults(t, ps, []int{2, 1}, []int{1, 0, 0}, []int{0, 1, 1})
	ps = []api.Point{point(0, 0, 0), point(-1, 0, 0), point(0, -1, 0)}
	checkResults(t, ps, []int{0}, []int{0, 1, 1}, []int{2, 0, 0})
}

func TestWeightAloneDiffers(t *testing.T) {
	ps := []api.Point{point(2, 2, most), point(3, 2, -most), point(2, 2, -most), point(3, 2, 0), point(2, 2, 0)}
	checkResults(t, ps, []int{1, 3}, []int{1, 0, 1, 0, 1}, []int{0, 3, 0, 3, 0})
}

func TestChains(t *testing.T) {
	t.Parallel()
	for _, n := range lengths {
		falling := func(i int) int { return n - 1 - i }
		for _, step := range [][2]int{{1, 1}, {1, 0}, {0, 1}, {2, 5}, {most / 200, most / 150}} {
			dx, dy := step[0], step[1]
			// Each point dominates the one before it in the list.
			ps := fill(n, func(i int) api.Point { return point(i*dx, i*dy, -i) })
			checkResults(t, ps, []int{n - 1}, numbers(n, falling), numbers(n, itself))
			// Each point dominates the next one.
			slices.Reverse(ps)
			checkResults(t, ps, []int{0}, numbers(n, itself), numbers(n, falling))
			ps = fill(n, func(i int) api.Point { return point(-i*dx, -i*dy, i) })
			checkResults(t, ps, []int{0}, numbers(n, itself), numbers(n, falling))
		}
		// As far apart as possible.
		ps := fill(n, func(i int) api.Point { return point(spread(i, n), spread(i, n), 0) })
		checkResults(t, ps, []int{n - 1}, numbers(n, falling), numbers(n, itself))
	}
}

func TestMixedChains(t *testing.T) {
	// The number 37 has no factor in common with these lengths: each place is taken once.
	for _, n := range []int{2, 3, 10, 64, 129, api.MaxPoints} {
		place := func(i int) int { return i * 37 % n }
		top := slices.Index(numbers(n, place), n-1)
		ps := fill(n, func(i int) api.Point { return point(place(i), 3*place(i), 0) })
		checkResults(t, ps, []int{top}, numbers(n, func(i int) int { return n - 1 - place(i) }), numbers(n, place))
		// None dominates another one.
		ps = fill(n, func(i int) api.Point { return point(place(i), -3*place(i), 0) })
		sorted := make([]int, n)
		for i := range n {
			sorted[place(i)] = i
		}
		checkResults(t, ps, sorted, numbers(n, same(0)), numbers(n, same(0)))
	}
}

func TestNoneDominatesAnother(t *testing.T) {
	t.Parallel()
	for _, n := range lengths {
		none := numbers(n, same(0))
		for _, step := range [][2]int{{1, 1}, {2, 5}, {most / 200, most / 150}} {
			dx, dy := step[0], step[1]
			ps := fill(n, func(i int) api.Point { return point(i*dx, -i*dy, i) })
			checkResults(t, ps, numbers(n, itself), none, none)
			ps = fill(n, func(i int) api.Point { return point(-i*dx, i*dy, i) })
			checkResults(t, ps, numbers(n, func(i int) int { return n - 1 - i }), none, none)
		}
		ps := fill(n, func(i int) api.Point { return point(spread(i, n), -spread(i, n), 0) })
		checkResults(t, ps, numbers(n, itself), none, none)
	}
}

func TestSquares(t *testing.T) {
	for _, side := range []int{1, 2, 3, 7, 12} {
		n := side * side
		ps := fill(n, func(i int) api.Point { return point(i%side, i/side, 0) })
		layers := numbers(n, func(i int) int { return 2*(side-1) - i%side - i/side })
		under := numbers(n, func(i int) int { return (i%side+1)*(i/side+1) - 1 })
		checkResults(t, ps, []int{n - 1}, layers, under)
	}
	// As many points as possible, in a square and on the edge of one.
	n := api.MaxPoints
	checkAll(t, fill(n, func(i int) api.Point { return point(i%13-6, i/13-6, i) }))
	checkAll(t, fill(n, func(i int) api.Point { return point(spread(i%13, 13), spread(i/13, 13), i) }))
	checkAll(t, fill(n, func(i int) api.Point {
		return []api.Point{point(-9, i, 0), point(n, i, 0), point(i, -9, 0), point(i, n, 0)}[i%4]
	}))
}

func TestCorners(t *testing.T) {
	ps := []api.Point{point(-most, -most, 0), point(most, -most, 0), point(-most, most, 0), point(most, most, 0),
		point(0, 0, 0)}
	checkResults(t, ps, []int{3}, []int{2, 1, 1, 0, 1}, []int{0, 1, 1, 4, 1})
	checkResults(t, slices.Concat(ps[1:3], ps[:1]), []int{1, 0}, []int{0, 0, 1}, []int{1, 1, 0})
}

func TestEachSmallList(t *testing.T) {
	t.Parallel()
	eachList(kindsOf([]int{-1, 0, 1}, []int{0}), 4, func(ps []api.Point) { checkAll(t, ps) })
}

func TestEachListOfFivePoints(t *testing.T) {
	t.Parallel()
	eachList(kindsOf([]int{0, 1}, []int{0}), 5, func(ps []api.Point) { checkAll(t, ps) })
}

func TestEachListOfWeights(t *testing.T) {
	t.Parallel()
	eachList(kindsOf([]int{0, 1}, []int{-1, 1}), 4, func(ps []api.Point) { checkAll(t, ps) })
}

func TestEachListOfThreePoints(t *testing.T) {
	t.Parallel()
	eachList(kindsOf([]int{-most, -1, 0, 2, most}, []int{0}), 3, func(ps []api.Point) { checkAll(t, ps) })
}

func TestEachArrangement(t *testing.T) {
	t.Parallel()
	// The points with different X have any different Y: all arrangements of six points without equal coordinates.
	var extend func(ps []api.Point)
	extend = func(ps []api.Point) {
		checkAll(t, ps)
		for y := range 6 {
			if len(ps) < 6 && !slices.ContainsFunc(ps, func(p api.Point) bool { return p.Y == y }) {
				extend(append(slices.Clone(ps), point(len(ps), y, 0)))
			}
		}
	}
	extend(nil)
}

func TestShapes(t *testing.T) {
	t.Parallel()
	for _, n := range lengths {
		for _, ps := range shapes(n) {
			checkAll(t, ps)
		}
	}
}

func TestShapesOfEachLength(t *testing.T) {
	t.Parallel()
	for n := 1; n <= api.MaxPoints; n++ {
		checkAll(t, mixed(n, -5, 5))
		checkAll(t, mixed(n, -most, most))
	}
}

func TestTooManyPoints(t *testing.T) {
	for _, n := range tooMany {
		checkInvalid(t, make([]api.Point, n), api.ErrSize)
		checkInvalid(t, mixed(n, -most, most), api.ErrSize)
		// One of them is out of range, too.
		for _, field := range fields {
			for _, i := range []int{0, n / 2, n - 1} {
				checkInvalid(t, with(make([]api.Point, n), i, field, most+1), api.ErrSize)
				checkInvalid(t, with(make([]api.Point, n), i, field, math.MinInt), api.ErrSize)
			}
		}
	}
}

func TestNumbersOutOfRange(t *testing.T) {
	for _, n := range []int{1, 2, 3, 64, api.MaxPoints - 1, api.MaxPoints} {
		for _, field := range fields {
			for _, x := range beyond {
				for _, i := range []int{0, n / 2, n - 1} {
					checkInvalid(t, with(make([]api.Point, n), i, field, x), api.ErrRange)
				}
			}
		}
	}
	for i := range api.MaxPoints {
		for _, field := range fields {
			checkInvalid(t, with(mixed(api.MaxPoints, -9, 9), i, field, -most-1), api.ErrRange)
		}
	}
}

func TestNoSuchPoint(t *testing.T) {
	for _, n := range append([]int{0}, lengths...) {
		ps := mixed(n, -5, 5)
		for _, i := range []int{n, n + 1, api.MaxPoints, api.MaxPoints + 1, 1 << 32, 1 << 62, math.MaxInt - 1, math.MaxInt,
			-1, -2, -n - 1, -1 << 32, math.MinInt + 1, math.MinInt} {
			checkNoUnder(t, ps, i, api.ErrRange)
			// The spare capacity has no points of the list.
			checkNoUnder(t, roomy(ps), i, api.ErrRange)
		}
	}
}

// roomy returns a copy of ps with points in its spare capacity, the last one of which is out of range.
func roomy(ps []api.Point) []api.Point {
	return append(slices.Clone(ps), point(0, 0, most), point(most, most, 1), point(2, 2, most+1))[:len(ps)]
}

func TestListIsNotChanged(t *testing.T) {
	t.Parallel()
	lists := [][]api.Point{nil, mixed(api.MaxPoints+1, -5, 5), with(mixed(9, -5, 5), 4, fields[1], -most-1)}
	for _, n := range lengths {
		lists = append(lists, shapes(n)...)
	}
	for _, l := range lists {
		ps := roomy(l)
		whole := slices.Clone(ps[:cap(ps)])
		if err := grid.Check(l); err != api.OK {
			checkInvalid(t, ps, err)
		} else {
			checkAll(t, ps)
		}
		if !slices.Equal(ps[:cap(ps)], whole) {
			t.Errorf("the list changed: %v; want %v", ps[:cap(ps)], whole)
		}
	}
}

// stamp sets each element of l, also in its spare capacity, to a number that is no index and no layer.
func stamp(l []int) {
	spare := l[:cap(l)]
	for i := range spare {
		spare[i] = -77777
	}
}

func TestResultsAreApart(t *testing.T) {
	t.Parallel()
	for _, n := range lengths {
		for _, l := range shapes(n) {
			ps := roomy(l)
			whole := slices.Clone(ps[:cap(ps)])
			first, _ := sky.Sky(ps)
			second, _ := sky.Layers(ps)
			third, _ := sky.Sky(ps)
			wantSecond, wantThird := slices.Clone(second), slices.Clone(third)
			stamp(first)
			if !slices.Equal(second, wantSecond) || !slices.Equal(third, wantThird) {
				t.Errorf("results for %v changed with a result of Sky: %v, %v", l, second, third)
			}
			stamp(second)
			if !slices.Equal(third, wantThird) || !slices.Equal(ps[:cap(ps)], whole) {
				t.Errorf("a result or the list changed with a result of Layers: %v, %v", third, ps)
			}
			// The results do not depend on what became of earlier ones.
			checkAll(t, ps)
		}
	}
}
