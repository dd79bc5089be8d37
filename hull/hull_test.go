package hull_test

import (
	"math"
	"math/big"
	"slices"
	"testing"

	"damask/api"
	"damask/grid"
	"damask/hull"
)

// most is the largest coordinate and the largest weight.
const most = api.MaxCoord

var (
	// beyond are numbers that are no coordinate and no weight.
	beyond = []int{math.MinInt, math.MinInt + 1, -1 << 62, -1 << 32, -1 << 21, -most - 2, -most - 1, most + 1, most + 2,
		1 << 21, 1 << 32, 1 << 62, math.MaxInt - 1, math.MaxInt}
	// lengths are numbers of points, around powers of 2 and the largest one that is allowed.
	lengths = []int{1, 2, 3, 4, 7, 8, 9, 31, 32, 33, 63, 64, 65, 127, 128, 129, api.MaxPoints - 1, api.MaxPoints}
	// tooMany are numbers of points that are not allowed.
	tooMany = []int{api.MaxPoints + 1, api.MaxPoints + 2, 2 * api.MaxPoints, api.MaxList, api.MaxList + 1, 512, 1 << 16}
	// fields are the numbers of a point.
	fields = []func(p *api.Point) *int{
		func(p *api.Point) *int { return &p.X },
		func(p *api.Point) *int { return &p.Y },
		func(p *api.Point) *int { return &p.W },
	}
	// directions are pairs of dx and dy.
	directions = [][2]int{{0, 0}, {1, 0}, {-1, 0}, {0, 1}, {0, -1}, {1, 1}, {1, -1}, {-1, 1}, {-1, -1}, {2, 1}, {-1, 3},
		{most, 0}, {-most, 0}, {0, most}, {0, -most}, {most, most}, {-most, most}, {most, -most}, {-most, -most},
		{most, 1}, {-1, most}, {most - 1, -most}, {-371293, 161051}}
)

func place(x, y int) api.Point {
	return api.Point{X: x, Y: y}
}

func point(x, y, w int) api.Point {
	return api.Point{X: x, Y: y, W: w}
}

// fill returns the list of n points in which point i is f(i).
func fill(n int, f func(i int) api.Point) []api.Point {
	ps := make([]api.Point, n)
	for i := range ps {
		ps[i] = f(i)
	}
	return ps
}

// with returns a copy of ps in which a field of point i is x.
func with(ps []api.Point, i int, field func(p *api.Point) *int, x int) []api.Point {
	c := slices.Clone(ps)
	*field(&c[i]) = x
	return c
}

// mixer returns a function that returns fixed mixed numbers from low to high, the same ones for the same seed.
func mixer(seed int) func(low, high int) int {
	state := uint64(seed)
	return func(low, high int) int {
		state = state*6364136223846793005 + 1442695040888963407
		return low + int(state>>33)%(high-low+1)
	}
}

// mixed returns n mixed points whose coordinates and weights are from low to high.
func mixed(n, low, high int) []api.Point {
	next := mixer(n + 7*high)
	return fill(n, func(int) api.Point { return point(next(low, high), next(low, high), next(low, high)) })
}

// spread returns the number with index i of n numbers, at least one, that rise from -most to most; one number is -most.
func spread(i, n int) int {
	return -most + 2*most*i/max(n-1, 1)
}

// onCircle returns n points on a circle with the given radius, as close to it as possible, counterclockwise from its
// leftmost position.
func onCircle(n, radius int) []api.Point {
	return fill(n, func(i int) api.Point {
		sin, cos := math.Sincos(math.Pi + 2*math.Pi*float64(i)/float64(n))
		return place(int(math.Round(float64(radius)*cos)), int(math.Round(float64(radius)*sin)))
	})
}

// around returns the position with index i of those on the boundary of the square from (0, 0) to (side, side).
func around(i, side int) api.Point {
	along := i % side
	return []api.Point{place(along, 0), place(side, along), place(side-along, side), place(0, side-along)}[i/side%4]
}

// shapes returns lists of n points, at least one.
func shapes(n int) [][]api.Point {
	ends := []int{-most, most, 0}
	next := mixer(n)
	return [][]api.Point{
		// All of them equal, and equal but for the weight.
		fill(n, func(int) api.Point { return place(-3, 4) }),
		fill(n, func(i int) api.Point { return point(most, -most, -i) }),
		// On a line: horizontal, vertical and slanted, in order and mixed, once and several times.
		fill(n, func(i int) api.Point { return place(i, 5) }),
		fill(n, func(i int) api.Point { return place(spread(i*37%n, n), most) }),
		fill(n, func(i int) api.Point { return place(-5, -i) }),
		fill(n, func(i int) api.Point { return place(-most, spread(i*37%n, n)) }),
		fill(n, func(i int) api.Point { return place(3*i, -2*i) }),
		fill(n, func(i int) api.Point { return place(i*37%n-n/2, 4*(i*37%n-n/2)+1) }),
		fill(n, func(i int) api.Point { return place(spread(i*41%n, n), spread(i*41%n, n)) }),
		fill(n, func(i int) api.Point { return point(i/3*2, i/3*6, i) }),
		fill(n, func(i int) api.Point { return point(i%7-3, 3-i%7, i) }),
		// In few places.
		fill(n, func(i int) api.Point { return place(i%3, -(i%3)*(i%3)) }),
		fill(n, func(i int) api.Point { return place(i%3-1, i/3%3-1) }),
		fill(n, func(i int) api.Point { return place(i*5%4, i*3%5) }),
		// On curves with and without others on their edges.
		onCircle(n, most),
		onCircle(n, 40),
		fill(n, func(i int) api.Point { return place(i-n/2, (i-n/2)*(i-n/2)) }),
		fill(n, func(i int) api.Point { return place(-i*i, i) }),
		fill(n, func(i int) api.Point { return place(i/2*(i/2)*2, i%2) }),
		// On the boundary of a square, and filling one.
		fill(n, func(i int) api.Point { return around(i, max(n/4, 1)) }),
		fill(n, func(i int) api.Point { return around(i*37%n, 3) }),
		fill(n, func(i int) api.Point { return place(i%13-6, i/13-6) }),
		fill(n, func(i int) api.Point { return place(spread(i*37%13, 13), spread(i/13, 13)) }),
		// At the ends of what is allowed.
		fill(n, func(i int) api.Point { return point(ends[i%3], ends[i/3%3], ends[i/9%3]) }),
		fill(n, func(int) api.Point { return place(ends[next(0, 1)], ends[next(0, 1)]) }),
		// Mixed ones, close together and far apart.
		mixed(n, 0, 1),
		mixed(n, -2, 2),
		mixed(n, -20, 20),
		mixed(n, -most, most),
	}
}

// eachList calls f with all lists of 1 to n points that are among kinds.
func eachList(kinds []api.Point, n int, f func(ps []api.Point)) {
	var extend func(start []api.Point)
	extend = func(start []api.Point) {
		for _, p := range kinds {
			ps := append(slices.Clone(start), p)
			f(ps)
			if len(ps) < n {
				extend(ps)
			}
		}
	}
	extend(nil)
}

// square returns all positions whose coordinates are among xs.
func square(xs ...int) []api.Point {
	var places []api.Point
	for _, x := range xs {
		for _, y := range xs {
			places = append(places, place(x, y))
		}
	}
	return places
}

func samePlace(p, q api.Point) bool {
	return p.X == q.X && p.Y == q.Y
}

// side is positive if, seen from o, the point q is to the left of p, negative if it is to the right, and 0 if all of them
// are on a line.
func side(o, p, q api.Point) int {
	return (p.X-o.X)*(q.Y-o.Y) - (q.X-o.X)*(p.Y-o.Y)
}

// sameWay reports whether, seen from o, the points p and q are in the same direction.
func sameWay(o, p, q api.Point) bool {
	return side(o, p, q) == 0 && (p.X-o.X)*(q.X-o.X)+(p.Y-o.Y)*(q.Y-o.Y) > 0
}

// isBeside reports whether o is not in the convex hull of ps: whether all points, seen from o, are in directions that
// take less than half a turn, from that of one of them to the left.
func isBeside(ps []api.Point, o api.Point) bool {
	return len(ps) == 0 || slices.ContainsFunc(ps, func(p api.Point) bool {
		return !slices.ContainsFunc(ps, func(q api.Point) bool { return side(o, p, q) <= 0 && !sameWay(o, p, q) })
	})
}

// isInterior reports whether o is in the interior of the convex hull of ps: whether the points, seen from o, are in
// directions that take more than half a turn, from that of each of them to the left.
func isInterior(ps []api.Point, o api.Point) bool {
	others := slices.DeleteFunc(slices.Clone(ps), func(p api.Point) bool { return samePlace(o, p) })
	return len(others) > 0 && !slices.ContainsFunc(others, func(p api.Point) bool {
		return !slices.ContainsFunc(others, func(q api.Point) bool { return side(o, p, q) < 0 })
	})
}

// corners returns the vertices of the convex hull, the points that are not in the convex hull of the others, in the order
// of Hull.
func corners(ps []api.Point) []int {
	var found []int
	for i, p := range ps {
		others := slices.DeleteFunc(slices.Clone(ps), func(q api.Point) bool { return samePlace(p, q) })
		isFirst := !slices.ContainsFunc(ps[:i], func(q api.Point) bool { return samePlace(p, q) })
		if isFirst && isBeside(others, p) {
			found = append(found, i)
		}
	}
	start := found[0]
	for _, i := range found {
		if ps[i].X < ps[start].X || ps[i].X == ps[start].X && ps[i].Y < ps[start].Y {
			start = i
		}
	}
	// Each one is put where as many are before it as are to its right, seen from the first one.
	sorted := make([]int, len(found))
	for _, i := range found {
		before := 0
		for _, j := range found {
			if i != start && (j == start || side(ps[start], ps[j], ps[i]) > 0) {
				before++
			}
		}
		sorted[before] = i
	}
	return sorted
}

// pick returns the points of ps with the given indices.
func pick(ps []api.Point, indices []int) []api.Point {
	return fill(len(indices), func(k int) api.Point { return ps[indices[k]] })
}

// areaOf returns twice the area of the polygon with the given vertices in counterclockwise order, as the difference of
// the areas below its upper edges and of those below its lower ones.
func areaOf(polygon []api.Point) int {
	twice := 0
	for k, p := range polygon {
		q := polygon[(k+1)%len(polygon)]
		twice += (p.X - q.X) * (p.Y + q.Y)
	}
	return twice
}

// common returns the greatest common divisor of the absolute values of a and b.
func common(a, b int) int {
	return int(new(big.Int).GCD(nil, nil, big.NewInt(int64(max(a, -a))), big.NewInt(int64(max(b, -b)))).Int64())
}

// positionsOf returns the number of positions in the interior and on the boundary of a polygon, by Pick's formula.
func positionsOf(polygon []api.Point) (within, border int) {
	for k, p := range polygon {
		q := polygon[(k+1)%len(polygon)]
		border += common(p.X-q.X, p.Y-q.Y)
	}
	switch len(polygon) {
	case 1:
		return 0, 1
	case 2:
		return 0, border/2 + 1
	}
	return (areaOf(polygon) + 2 - border) / 2, border
}

// countPositions returns the number of positions in the interior and on the boundary of the convex hull of ps, by a look
// at all positions around it.
func countPositions(ps []api.Point) (within, border int) {
	low, high := bounds(ps)
	for x := low.X; x <= high.X; x++ {
		for y := low.Y; y <= high.Y; y++ {
			switch p := place(x, y); {
			case isInterior(ps, p):
				within++
			case !isBeside(ps, p):
				border++
			}
		}
	}
	return within, border
}

// bounds returns the smallest and the largest X and Y.
func bounds(ps []api.Point) (low, high api.Point) {
	low, high = ps[0], ps[0]
	for _, p := range ps {
		low = place(min(low.X, p.X), min(low.Y, p.Y))
		high = place(max(high.X, p.X), max(high.Y, p.Y))
	}
	return low, high
}

func checkHull(t *testing.T, ps []api.Point, want ...int) {
	t.Helper()
	if got, err := hull.Hull(ps); err != api.OK || !slices.Equal(got, want) {
		t.Errorf("Hull(%v) = %v, %d; want %v, 0", ps, got, err, want)
	}
}

func checkArea(t *testing.T, ps []api.Point, want int) {
	t.Helper()
	if got, err := hull.Area(ps); err != api.OK || got != want {
		t.Errorf("Area(%v) = %d, %d; want %d, 0", ps, got, err, want)
	}
}

func checkHas(t *testing.T, ps []api.Point, x, y int, want bool) {
	t.Helper()
	if got, err := hull.Has(ps, x, y); err != api.OK || got != want {
		t.Errorf("Has(%v, %d, %d) = %t, %d; want %t, 0", ps, x, y, got, err, want)
	}
}

func checkFar(t *testing.T, ps []api.Point, dx, dy, want int) {
	t.Helper()
	if got, err := hull.Far(ps, dx, dy); err != api.OK || got != want {
		t.Errorf("Far(%v, %d, %d) = %d, %d; want %d, 0", ps, dx, dy, got, err, want)
	}
}

func checkInside(t *testing.T, ps []api.Point, within, border int) {
	t.Helper()
	gotWithin, gotBorder, err := hull.Inside(ps)
	if err != api.OK || gotWithin != within || gotBorder != border {
		t.Errorf("Inside(%v) = %d, %d, %d; want %d, %d, 0", ps, gotWithin, gotBorder, err, within, border)
	}
}

// checkSizes checks Area and Inside.
func checkSizes(t *testing.T, ps []api.Point, area, within, border int) {
	t.Helper()
	checkArea(t, ps, area)
	checkInside(t, ps, within, border)
}

// checkIn checks that all places are in the hull, or that none of them is.
func checkIn(t *testing.T, ps []api.Point, want bool, places ...api.Point) {
	t.Helper()
	for _, p := range places {
		checkHas(t, ps, p.X, p.Y, want)
	}
}

// checkPlaces checks, compared with the definition, whether places are in the hull. Some may be out of range.
func checkPlaces(t *testing.T, ps []api.Point, places []api.Point) {
	t.Helper()
	for _, p := range places {
		if grid.Check([]api.Point{p}) == api.OK {
			checkHas(t, ps, p.X, p.Y, !isBeside(ps, p))
		} else {
			checkNoHas(t, ps, p.X, p.Y, api.ErrRange)
		}
	}
}

// checkDirection checks Far, compared with the definition. The direction may be out of range.
func checkDirection(t *testing.T, ps []api.Point, dx, dy int) {
	t.Helper()
	if grid.Check([]api.Point{place(dx, dy)}) != api.OK {
		checkNoFar(t, ps, dx, dy, api.ErrRange)
		return
	}
	largest := math.MinInt
	for _, p := range ps {
		largest = max(largest, dx*p.X+dy*p.Y)
	}
	checkFar(t, ps, dx, dy, slices.IndexFunc(ps, func(p api.Point) bool { return dx*p.X+dy*p.Y == largest }))
}

func checkNoHas(t *testing.T, ps []api.Point, x, y int, want api.Errno) {
	t.Helper()
	if got, err := hull.Has(ps, x, y); err != want || got {
		t.Errorf("Has(%v, %d, %d) = %t, %d; want false, %d", ps, x, y, got, err, want)
	}
}

func checkNoFar(t *testing.T, ps []api.Point, dx, dy int, want api.Errno) {
	t.Helper()
	if got, err := hull.Far(ps, dx, dy); err != want || got != 0 {
		t.Errorf("Far(%v, %d, %d) = %d, %d; want 0, %d", ps, dx, dy, got, err, want)
	}
}

// placesAround returns positions at, beside and between points of ps, whose vertices are given, and on the lines through
// them.
func placesAround(ps []api.Point, vertices []int) []api.Point {
	places := square(-most, -1, 0, 1, most)
	some := min(len(vertices), 12)
	for k := range some {
		i := vertices[k*len(vertices)/some]
		p, q := ps[i], ps[(i+1+k)%len(ps)]
		places = append(places, p, q, place((p.X+q.X)/2, (p.Y+q.Y)/2), place(2*p.X-q.X, 2*p.Y-q.Y),
			place(p.X+1, p.Y), place(p.X-1, p.Y), place(p.X, p.Y+1), place(p.X, p.Y-1))
	}
	return places
}

// checkAll checks all functions for a valid list, compared with the definitions; the numbers of positions are those of
// Pick's formula.
func checkAll(t *testing.T, ps []api.Point) {
	t.Helper()
	vertices := corners(ps)
	checkHull(t, ps, vertices...)
	polygon := pick(ps, vertices)
	within, border := positionsOf(polygon)
	checkSizes(t, ps, areaOf(polygon), within, border)
	checkPlaces(t, ps, placesAround(ps, vertices))
	for _, d := range directions {
		checkDirection(t, ps, d[0], d[1])
	}
	for k, p := range polygon {
		// Across each edge.
		q := polygon[(k+1)%len(polygon)]
		checkDirection(t, ps, q.Y-p.Y, p.X-q.X)
		checkDirection(t, ps, p.Y-q.Y, q.X-p.X)
	}
}

// checkSmall checks all functions for a valid list with small coordinates, compared with the definitions.
func checkSmall(t *testing.T, ps, places []api.Point) {
	t.Helper()
	vertices := corners(ps)
	checkHull(t, ps, vertices...)
	within, border := countPositions(ps)
	checkSizes(t, ps, areaOf(pick(ps, vertices)), within, border)
	checkPlaces(t, ps, places)
	for _, d := range places {
		checkDirection(t, ps, d.X, d.Y)
	}
}

// checkInvalid checks that all functions return an error, whatever the position and the direction are.
func checkInvalid(t *testing.T, ps []api.Point, want api.Errno) {
	t.Helper()
	if got, err := hull.Hull(ps); err != want || len(got) != 0 {
		t.Errorf("Hull(%v) = %v, %d; want [], %d", ps, got, err, want)
	}
	if got, err := hull.Area(ps); err != want || got != 0 {
		t.Errorf("Area(%v) = %d, %d; want 0, %d", ps, got, err, want)
	}
	if within, border, err := hull.Inside(ps); err != want || within != 0 || border != 0 {
		t.Errorf("Inside(%v) = %d, %d, %d; want 0, 0, %d", ps, within, border, err, want)
	}
	for _, p := range square(0, 1, -most, most+1, math.MinInt, math.MaxInt) {
		checkNoHas(t, ps, p.X, p.Y, want)
		checkNoFar(t, ps, p.X, p.Y, want)
	}
}

func TestExamples(t *testing.T) {
	// The points of DOC.md.
	ps := []api.Point{place(1, 1), place(2, 3), place(4, 2), place(2, 1)}
	checkHull(t, ps, 0, 3, 2, 1)
	checkSizes(t, ps, 6, 2, 4)
	checkAll(t, ps)
	ps = []api.Point{place(0, 0), place(2, 0), place(0, 2)}
	checkHull(t, ps, 0, 1, 2)
	checkSizes(t, ps, 4, 0, 6)
	checkHas(t, ps, 1, 1, true)
	checkFar(t, ps, 1, 0, 1)
	checkAll(t, ps)
}

func TestNoPoints(t *testing.T) {
	for _, ps := range [][]api.Point{nil, {}, mixed(9, -5, 5)[:0]} {
		checkInvalid(t, ps, api.ErrNone)
		for _, x := range beyond {
			checkNoHas(t, ps, x, 0, api.ErrNone)
			checkNoHas(t, ps, 0, x, api.ErrNone)
			checkNoFar(t, ps, x, 0, api.ErrNone)
			checkNoFar(t, ps, 0, x, api.ErrNone)
		}
	}
}

func TestOnePlace(t *testing.T) {
	for _, n := range lengths {
		for _, p := range square(-most, -7, 0, 5, most) {
			// The weight does not count.
			for _, ps := range [][]api.Point{
				fill(n, func(int) api.Point { return p }),
				fill(n, func(i int) api.Point { return point(p.X, p.Y, i) }),
				fill(n, func(i int) api.Point { return point(p.X, p.Y, spread(i*37%n, n)) }),
			} {
				checkHull(t, ps, 0)
				checkSizes(t, ps, 0, 0, 1)
				checkHas(t, ps, p.X, p.Y, true)
				checkPlaces(t, ps, []api.Point{place(p.X+1, p.Y), place(p.X-1, p.Y), place(p.X, p.Y+1), place(p.X, p.Y-1),
					place(p.X+1, p.Y+1), place(-p.X, 3), place(-4, -p.Y), place(p.Y, p.X)})
				for _, d := range directions {
					checkFar(t, ps, d[0], d[1], 0)
				}
			}
		}
	}
}

func TestTwoPlaces(t *testing.T) {
	p, q := place(-1, 2), place(3, 0)
	for _, ps := range [][]api.Point{{p, q}, {p, q, p}, {p, p, q, q}, {point(-1, 2, 5), q, point(3, 0, -5), q, p}} {
		checkHull(t, ps, 0, slices.IndexFunc(ps, func(r api.Point) bool { return r.X == 3 }))
		checkSizes(t, ps, 0, 0, 3)
		checkIn(t, ps, true, p, q, place(1, 1))
		// On the line through both, beside it, and beside both.
		checkIn(t, ps, false, place(-3, 3), place(5, -1), place(0, 1), place(0, 2), place(1, 2), place(1, 0), place(2, 0),
			place(2, 1), place(3, 2), place(-1, 0), place(-1, 3), place(3, -1), place(-2, 2), place(4, 0))
		checkAll(t, ps)
	}
	checkHull(t, []api.Point{q, q, p, q, p}, 2, 0)
	checkFar(t, []api.Point{q, q, p, q, p}, -1, 0, 2)
	// Of two points with the same X, the lower one is first.
	checkHull(t, []api.Point{place(4, 1), place(4, -1)}, 1, 0)
	checkHull(t, []api.Point{place(4, -1), place(4, 1)}, 0, 1)
	checkHull(t, []api.Point{place(4, -1), place(5, -9)}, 0, 1)
	checkHull(t, []api.Point{place(4, -1), place(3, 9)}, 1, 0)
}

func TestSegments(t *testing.T) {
	for _, c := range []struct {
		p, q   api.Point
		border int
	}{
		{place(0, 0), place(1, 0), 2},
		{place(0, 0), place(0, 1), 2},
		{place(0, 0), place(4, 2), 3},
		{place(-2, 3), place(5, 13), 2},
		{place(-6, 3), place(6, -5), 5},
		{place(2, -7), place(12, -7), 11},
		{place(2, -7), place(2, 7), 15},
		{place(-3, -3), place(3, 3), 7},
		{place(-most, -most), place(most, most), 2*most + 1},
		{place(-most, most), place(most, -most), 2*most + 1},
		{place(-most, 0), place(most, 0), 2*most + 1},
		{place(0, -most), place(0, most), 2*most + 1},
		{place(-most, -most), place(most, most-1), 2},
		{place(-most, -most), place(1-most, most), 2},
		{place(-most, 0), place(most, most), most + 1},
		{place(-most, -most), place(most, -most+6), 3},
	} {
		ps := []api.Point{c.p, c.q}
		checkHull(t, ps, 0, 1)
		checkSizes(t, ps, 0, 0, c.border)
		checkAll(t, ps)
		slices.Reverse(ps)
		checkHull(t, ps, 1, 0)
		checkSizes(t, ps, 0, 0, c.border)
		checkAll(t, ps)
	}
}

func TestLines(t *testing.T) {
	t.Parallel()
	for _, n := range lengths {
		last := n - 1
		for _, step := range []api.Point{place(1, 0), place(0, 1), place(1, 1), place(2, -5), place(3, 6), place(6990, -6989)} {
			ps := fill(n, func(i int) api.Point { return point(i*step.X-5, i*step.Y-5, i) })
			ends := []int{0, last}[:min(n, 2)]
			border := last*common(step.X, step.Y) + 1
			checkHull(t, ps, ends...)
			checkSizes(t, ps, 0, 0, border)
			slices.Reverse(ps)
			slices.Reverse(ends)
			checkHull(t, ps, ends...)
			checkSizes(t, ps, 0, 0, border)
			checkAll(t, ps)
			// On the line, but beyond all points.
			checkHas(t, ps, -5-step.X, -5-step.Y, false)
			checkHas(t, ps, n*step.X-5, n*step.Y-5, false)
		}
	}
	// The end points come several times and not at the ends of the list.
	ps := []api.Point{place(2, 2), place(4, 6), place(1, 0), place(3, 4), place(4, 6), place(1, 0), place(2, 2)}
	checkHull(t, ps, 2, 1)
	checkSizes(t, ps, 0, 0, 4)
	checkAll(t, ps)
}

func TestSeveralEqualVertices(t *testing.T) {
	p, q, r := place(-2, 0), place(3, -1), place(1, 4)
	for _, c := range []struct {
		ps   []api.Point
		want []int
	}{
		{[]api.Point{p, p, q, q, r, r}, []int{0, 2, 4}},
		{[]api.Point{r, q, p, r, q, p}, []int{2, 1, 0}},
		{[]api.Point{q, q, q, r, q, p, r}, []int{5, 0, 3}},
		{[]api.Point{place(0, 0), r, p, place(0, 0), p, r, q, p}, []int{2, 6, 1}},
		{[]api.Point{point(3, -1, 9), point(-2, 0, -9), point(3, -1, 1), r, point(-2, 0, 9), point(1, 4, 9)}, []int{1, 0, 3}},
	} {
		checkHull(t, c.ps, c.want...)
		checkAll(t, c.ps)
	}
}

func TestPointsOnEdges(t *testing.T) {
	ps := []api.Point{place(2, 0), place(0, 0), place(4, 0), place(2, 2), place(4, 4), place(4, 1), place(3, 3), place(3, 0),
		place(1, 1), place(3, 2)}
	checkHull(t, ps, 1, 2, 4)
	checkSizes(t, ps, 16, 3, 12)
	// The points with the smallest indices among those that are extreme are not all vertices.
	checkFar(t, ps, 0, -1, 0)
	checkFar(t, ps, 1, 0, 2)
	checkFar(t, ps, -1, 1, 1)
	checkFar(t, ps[2:], -1, 1, 1)
	checkFar(t, ps[2:], 0, -1, 0)
	checkFar(t, ps[3:], 1, 0, 1)
	checkFar(t, ps[5:], 1, 0, 0)
	checkFar(t, ps[5:], 0, -1, 2)
	checkAll(t, ps)
}

func TestSeveralWithSmallestCoordinate(t *testing.T) {
	ps := []api.Point{place(-1, 3), place(-1, -2), place(-1, 5), place(2, -2), place(0, -2), place(2, 1)}
	checkHull(t, ps, 1, 3, 5, 2)
	checkSizes(t, ps, 30, 9, 14)
	checkAll(t, ps)
	// The lowest point is not the first one.
	ps = []api.Point{place(0, -9), place(-1, 5), place(-1, 4), place(1, 5), place(1, 4)}
	checkHull(t, ps, 2, 0, 4, 3, 1)
	checkAll(t, ps)
}

func TestHas(t *testing.T) {
	ps := []api.Point{place(0, 0), place(4, 0), place(6, 4), place(2, 4)}
	checkIn(t, ps, true, place(0, 0), place(4, 0), place(6, 4), place(2, 4), // the vertices
		place(1, 0), place(2, 0), place(5, 2), place(3, 4), place(5, 4), place(1, 2), // on the edges
		place(1, 1), place(3, 2), place(4, 1), place(5, 3), place(2, 3)) // inside
	checkIn(t, ps, false, place(-1, 0), place(5, 0), place(7, 6), place(3, -2), place(7, 4), place(1, 4), place(3, 6),
		place(-1, -2), // on the lines of the edges
		place(0, 1), place(1, 3), place(5, 1), place(6, 3), place(3, -1), place(3, 5), place(-most, -most),
		place(most, most), place(-most, 2), place(most, 2), place(3, -most), place(3, most)) // outside
}

func TestFar(t *testing.T) {
	ps := []api.Point{place(2, 2), place(0, 4), place(4, 0), place(4, 4), place(0, 0), place(4, 4), place(2, 4)}
	for _, c := range []struct{ dx, dy, want int }{
		{0, 0, 0}, {1, 0, 2}, {-1, 0, 1}, {0, 1, 1}, {0, -1, 2}, {1, 1, 3}, {-1, -1, 4}, {1, -1, 2}, {-1, 1, 1},
		{1, 2, 3}, {most, 0, 2}, {0, most, 1}, {-most, 0, 1}, {0, -most, 2}, {most, most, 3}, {-most, -most, 4},
	} {
		checkFar(t, ps, c.dx, c.dy, c.want)
	}
	// All points of an edge are extreme across it, and none of them more than the others.
	ps = []api.Point{place(0, 0), place(3, 2), place(6, 0), place(0, 4), place(9, -2), place(-3, 6)}
	checkFar(t, ps, 2, 3, 1)
	checkFar(t, ps[2:], 2, 3, 0)
	checkFar(t, ps, 4*most/8, 6*most/8, 1)
	checkFar(t, ps, -2, -3, 0)
	checkAll(t, ps)
}

func TestInside(t *testing.T) {
	for _, c := range []struct {
		ps                   []api.Point
		area, within, border int
	}{
		// Without positions in the interior.
		{[]api.Point{place(0, 0), place(1, 0), place(0, 1)}, 1, 0, 3},
		{[]api.Point{place(0, 0), place(1, 0), place(0, 1), place(1, 1)}, 2, 0, 4},
		{[]api.Point{place(0, 0), place(9, 0), place(0, 1), place(9, 1)}, 18, 0, 20},
		{[]api.Point{place(5, 7), place(8, 9), place(6, 8)}, 1, 0, 3},
		{[]api.Point{place(0, 0), place(most, 1), place(most-1, 1)}, 1, 0, 3},
		{[]api.Point{place(-most, 0), place(most, 0), place(0, 1)}, 2 * most, 0, 2*most + 2},
		// With one, and with more.
		{[]api.Point{place(0, 0), place(1, 2), place(2, 1)}, 3, 1, 3},
		{[]api.Point{place(1, 0), place(0, 1), place(-1, 0), place(0, -1)}, 4, 1, 4},
		{[]api.Point{place(-3, -4), place(0, 4), place(3, -4)}, 48, 21, 8},
		{[]api.Point{place(-9, 0), place(9, 0), place(0, 2), place(0, -2)}, 72, 35, 4},
	} {
		checkSizes(t, c.ps, c.area, c.within, c.border)
		checkAll(t, c.ps)
		slices.Reverse(c.ps)
		checkSizes(t, c.ps, c.area, c.within, c.border)
		checkAll(t, c.ps)
	}
}

func TestExtremeCorners(t *testing.T) {
	ps := []api.Point{place(most, most), place(-most, -most), place(-most, most), place(most, -most)}
	checkHull(t, ps, 1, 3, 0, 2)
	checkSizes(t, ps, 8*most*most, (2*most-1)*(2*most-1), 8*most)
	checkIn(t, ps, true, square(-most, -1, 0, 1, most)...)
	checkAll(t, ps)
	// The half of it above its diagonal.
	checkHull(t, ps[:3], 1, 0, 2)
	checkSizes(t, ps[:3], 4*most*most, (2*most-1)*(most-1), 6*most)
	checkIn(t, ps[:3], true, place(0, 0), place(-1, 0), place(0, 1), place(most-1, most), place(-most, -most+1))
	checkIn(t, ps[:3], false, place(1, 0), place(0, -1), place(most, most-1), place(-most+1, -most), place(most, -most))
	checkFar(t, ps[:3], 1, -1, 0)
	checkAll(t, ps[:3])
	// The square on its corner.
	ps = []api.Point{place(0, most), place(most, 0), place(0, -most), place(-most, 0)}
	checkHull(t, ps, 3, 2, 1, 0)
	checkSizes(t, ps, 4*most*most, 2*most*(most-1)+1, 4*most)
	checkIn(t, ps, true, place(most/2, most/2), place(-most/2, most/2), place(1, 1-most), place(1-most, -1))
	checkIn(t, ps, false, place(most/2, most/2+1), place(-most/2-1, most/2), place(1, -most), place(-most, -1))
	checkAll(t, ps)
}

func TestCircles(t *testing.T) {
	t.Parallel()
	for _, n := range lengths {
		ps := onCircle(n, most)
		all := make([]int, n)
		for i := range all {
			all[i] = i
		}
		checkHull(t, ps, all...)
		checkAll(t, ps)
		// The number 37 has no factor in common with these lengths: each point comes once.
		mixed := make([]api.Point, n)
		for i, p := range ps {
			mixed[i*37%n] = p
			all[i] = i * 37 % n
		}
		checkHull(t, mixed, all...)
		within, border := positionsOf(ps)
		checkSizes(t, mixed, areaOf(ps), within, border)
	}
	// All positions on a circle, with the largest number of points and without a look at a sine.
	var ps []api.Point
	for x := -2471; x <= 2471; x++ {
		for y := -2471; y <= 2471; y++ {
			if x*x+y*y == 5*1105*1105 {
				ps = append(ps, place(x, y))
			}
		}
	}
	if len(ps) != 144 || len(corners(ps)) != 144 {
		t.Errorf("there are %d positions and %d corners; want 144", len(ps), len(corners(ps)))
	}
	checkAll(t, ps)
	checkAll(t, slices.Concat(mixed(3, -9, 9), ps, mixed(3, -99, 99)))
}

func TestSquares(t *testing.T) {
	t.Parallel()
	for side := 1; side <= 11; side++ {
		n := (side + 1) * (side + 1)
		ps := fill(n, func(i int) api.Point { return place(i%(side+1), i/(side+1)) })
		checkHull(t, ps, 0, side, n-1, n-1-side)
		checkSizes(t, ps, 2*side*side, (side-1)*(side-1), 4*side)
		checkAll(t, ps)
		// Only the boundary, from each of its positions on.
		for start := range 4 * side {
			ps := fill(4*side, func(i int) api.Point { return around(start+i, side) })
			corner := func(k int) int { return (k*side + 4*side - start) % (4 * side) }
			checkHull(t, ps, corner(0), corner(1), corner(2), corner(3))
			checkSizes(t, ps, 2*side*side, (side-1)*(side-1), 4*side)
		}
	}
	// As many points as possible on the boundary, some of them twice.
	ps := fill(api.MaxPoints, func(i int) api.Point { return around(i, 37) })
	checkHull(t, ps, 0, 37, 74, 111)
	checkSizes(t, ps, 2*37*37, 36*36, 4*37)
	checkAll(t, ps)
}

func TestFewPlaces(t *testing.T) {
	t.Parallel()
	places := []api.Point{place(0, 0), place(3, -1), place(2, 2), place(1, 1), place(-2, 5), place(-2, 1), place(-2, 3)}
	for _, n := range []int{7, 8, 14, 63, api.MaxPoints} {
		for _, factor := range []int{1, 2, 3, 4, 5, 6} {
			ps := fill(n, func(i int) api.Point {
				p := places[i*factor%7]
				return point(p.X, p.Y, i)
			})
			var want []int
			for _, k := range []int{5, 0, 1, 2, 4} {
				want = append(want, slices.IndexFunc(ps, func(p api.Point) bool { return samePlace(p, places[k]) }))
			}
			checkHull(t, ps, want...)
			checkAll(t, ps)
		}
	}
}

func TestEachSmallList(t *testing.T) {
	t.Parallel()
	places := square(-2, -1, 0, 1, 2)
	eachList(square(-1, 0, 1), 3, func(ps []api.Point) { checkSmall(t, ps, places) })
	eachList(square(0, 1), 5, func(ps []api.Point) { checkSmall(t, ps, places) })
}

func TestEachListOfFourPoints(t *testing.T) {
	t.Parallel()
	places := []api.Point{place(0, 0), place(1, 0), place(0, -1), place(1, 1), place(-1, 2), place(2, 0), place(-2, 2)}
	eachList(square(-1, 0, 1), 4, func(ps []api.Point) { checkSmall(t, ps, places) })
}

func TestEachListOfThreePoints(t *testing.T) {
	t.Parallel()
	places := square(-3, -1, 0, 2)
	eachList(square(-2, -1, 0, 2), 3, func(ps []api.Point) { checkSmall(t, ps, places) })
}

func TestEachSetOfPlaces(t *testing.T) {
	t.Parallel()
	all := square(0, 1, 2, 3)
	for set := 1; set < 1<<len(all); set++ {
		var ps []api.Point
		for i, p := range all {
			if set>>i&1 == 1 {
				ps = append(ps, p)
			}
		}
		vertices := corners(ps)
		checkHull(t, ps, vertices...)
		if set%7 == 0 {
			within, border := countPositions(ps)
			checkSizes(t, ps, areaOf(pick(ps, vertices)), within, border)
			checkPlaces(t, ps, all)
		}
	}
}

func TestEachListOfExtremePoints(t *testing.T) {
	t.Parallel()
	places := square(-most, 1-most, 0, most)
	eachList(square(-most, 0, most-1, most), 3, func(ps []api.Point) {
		vertices := corners(ps)
		checkHull(t, ps, vertices...)
		within, border := positionsOf(pick(ps, vertices))
		checkSizes(t, ps, areaOf(pick(ps, vertices)), within, border)
		checkPlaces(t, ps, places)
		for _, d := range places {
			checkDirection(t, ps, d.X, d.Y)
		}
	})
}

func TestEachListOfWeights(t *testing.T) {
	t.Parallel()
	kinds := []api.Point{point(0, 0, 1), point(0, 0, -1), point(1, 0, most), point(1, 0, -most), point(0, 1, 0),
		point(0, 1, 5), point(1, 1, 7)}
	eachList(kinds, 4, func(ps []api.Point) { checkSmall(t, ps, square(0, 1)) })
}

func TestPositions(t *testing.T) {
	t.Parallel()
	// All positions in and around hulls of mixed points are counted and asked for.
	for n := 1; n <= 24; n++ {
		ps := mixed(n, -9, 9)
		low, high := bounds(ps)
		var places []api.Point
		for x := low.X - 1; x <= high.X+1; x++ {
			for y := low.Y - 1; y <= high.Y+1; y++ {
				places = append(places, place(x, y))
			}
		}
		checkSmall(t, ps, places)
	}
}

func TestShapes(t *testing.T) {
	t.Parallel()
	for _, n := range lengths {
		for _, ps := range shapes(n) {
			checkAll(t, ps)
		}
	}
}

func TestShapesOfEachLength(t *testing.T) {
	t.Parallel()
	for n := 1; n <= api.MaxPoints; n++ {
		checkAll(t, mixed(n, -5, 5))
		checkAll(t, mixed(n, -most, most))
	}
}

func TestTooManyPoints(t *testing.T) {
	for _, n := range tooMany {
		checkInvalid(t, make([]api.Point, n), api.ErrSize)
		checkInvalid(t, mixed(n, -most, most), api.ErrSize)
		// One of them is out of range, too.
		for _, field := range fields {
			for _, i := range []int{0, n / 2, n - 1} {
				checkInvalid(t, with(make([]api.Point, n), i, field, most+1), api.ErrSize)
				checkInvalid(t, with(make([]api.Point, n), i, field, math.MinInt), api.ErrSize)
			}
		}
	}
}

func TestNumbersOutOfRange(t *testing.T) {
	t.Parallel()
	for _, n := range []int{1, 2, 3, 64, api.MaxPoints - 1, api.MaxPoints} {
		for _, field := range fields {
			for _, x := range beyond {
				for _, i := range []int{0, n / 2, n - 1} {
					checkInvalid(t, with(make([]api.Point, n), i, field, x), api.ErrRange)
				}
			}
		}
	}
	for i := range api.MaxPoints {
		for _, field := range fields {
			checkInvalid(t, with(mixed(api.MaxPoints, -9, 9), i, field, -most-1), api.ErrRange)
		}
	}
}

func TestPositionsAndDirectionsOutOfRange(t *testing.T) {
	t.Parallel()
	for _, n := range lengths {
		for _, ps := range [][]api.Point{
			mixed(n, -5, 5),
			mixed(n, -most, most),
			fill(n, func(int) api.Point { return place(0, 0) }),
			fill(n, func(i int) api.Point { return place(most, i) }),
		} {
			for _, x := range beyond {
				for _, y := range []int{0, x, -most, most, beyond[0], beyond[len(beyond)-1]} {
					checkNoHas(t, ps, x, y, api.ErrRange)
					checkNoHas(t, ps, y, x, api.ErrRange)
					checkNoFar(t, ps, x, y, api.ErrRange)
					checkNoFar(t, ps, y, x, api.ErrRange)
				}
			}
		}
	}
}

// roomy returns a copy of ps with points in its spare capacity, the last one of which is out of range.
func roomy(ps []api.Point) []api.Point {
	return append(slices.Clone(ps), point(0, 0, most), point(most, most, 1), point(2, 2, most+1))[:len(ps)]
}

func TestListIsNotChanged(t *testing.T) {
	t.Parallel()
	lists := [][]api.Point{mixed(api.MaxPoints+1, -5, 5), with(mixed(9, -5, 5), 4, fields[1], -most-1), nil}
	for _, n := range lengths {
		lists = append(lists, shapes(n)...)
	}
	for _, l := range lists {
		ps := roomy(l)
		whole := slices.Clone(ps[:cap(ps)])
		if err := grid.Check(l); err != api.OK {
			checkInvalid(t, ps, err)
		} else if len(l) == 0 {
			checkInvalid(t, ps, api.ErrNone)
		} else {
			checkAll(t, ps)
		}
		if !slices.Equal(ps[:cap(ps)], whole) {
			t.Errorf("the list changed: %v; want %v", ps[:cap(ps)], whole)
		}
	}
}

func TestResultsAreApart(t *testing.T) {
	t.Parallel()
	for _, n := range lengths {
		for _, l := range shapes(n) {
			ps := roomy(l)
			whole := slices.Clone(ps[:cap(ps)])
			first, _ := hull.Hull(ps)
			second, _ := hull.Hull(ps)
			want := slices.Clone(second)
			// A number that is no index, also in the spare capacity.
			for i := range first[:cap(first)] {
				first[:cap(first)][i] = -77777
			}
			if !slices.Equal(second, want) || !slices.Equal(ps[:cap(ps)], whole) {
				t.Errorf("a result for %v or the list changed with a result: %v, %v", l, second, ps)
			}
			// The results do not depend on what became of earlier ones.
			checkHull(t, ps, want...)
		}
	}
}
