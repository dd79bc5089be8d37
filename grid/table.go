package grid

import (
	"math/bits"

	"damask/api"
	"damask/wave"
)

// span is a range of places in an order: from from to to - 1.
type span struct {
	from, to int
}

// area is what a rectangle is in a table: the places of its columns in the order by X, and of its rows in the order by
// Y. A point is in the rectangle if both of its places are in these ranges.
type area struct {
	columns, rows span
}

// table has the points of a valid list in both orders.
type table struct {
	byX, byY order
	rows     api.Wave // for each place in the order by X, the place of its point in the order by Y
}

func makeTable(ps []api.Point) table {
	t := table{
		byX: makeOrder(ps, func(p api.Point) (first, second int) { return p.X, p.Y }),
		byY: makeOrder(ps, func(p api.Point) (first, second int) { return p.Y, p.X }),
	}
	rows := make([]int, len(ps))
	for place, i := range t.byX.points {
		rows[place] = t.byY.places[i]
	}
	// The call does not fail: all places are less than the number of points, which is less than MaxList.
	t.rows, _ = wave.Make(bits.Len(uint(len(ps))), rows)
	return t
}

// find returns the area of the rectangle r.
func (t table) find(r api.Rect) area {
	return area{t.byX.between(r.X0, r.X1), t.byY.between(r.Y0, r.Y1)}
}

// below returns how many points in these columns have a place in the order by Y that is less than row.
func (t table) below(columns span, row int) int {
	count, _ := wave.Below(t.rows, columns.from, columns.to, row)
	return count
}

// count returns the number of points in a.
func (t table) count(a area) int {
	return t.below(a.columns, a.rows.to) - t.below(a.columns, a.rows.from)
}

// points returns the indices of the points in a in the order by X.
func (t table) points(a area) []int {
	var points []int
	for _, i := range t.byX.points[a.columns.from:a.columns.to] {
		if row := t.byY.places[i]; a.rows.from <= row && row < a.rows.to {
			points = append(points, i)
		}
	}
	return points
}

// kth returns the index of the point in a, which has more than k points, with k points of a before it in the order by Y.
func (t table) kth(a area, k int) int {
	// The points below the rectangle, in the same columns, come before those in it.
	row, _ := wave.Kth(t.rows, a.columns.from, a.columns.to, t.below(a.columns, a.rows.from)+k)
	return t.byY.points[row]
}
