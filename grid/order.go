package grid

import (
	"damask/api"
	"damask/ranks"
)

// order has the points of a valid list sorted by one coordinate, then by the other one, then by index.
type order struct {
	keys   []int // the keys of the points, in order
	points []int // the indices of the points, in order
	places []int // for each point, where it is in points
}

// makeOrder sorts ps by the first one of the coordinates that sides returns, then by the second one, then by index.
func makeOrder(ps []api.Point, sides func(p api.Point) (first, second int)) order {
	keys := make([]int, len(ps))
	for i, p := range ps {
		first, second := sides(p)
		keys[i] = key(first, second, i)
	}
	// The call does not fail: there are fewer points than a list may have numbers. As the keys are different, the rank of
	// each one is its place.
	sorted, places, _ := ranks.Make(keys)
	points := make([]int, len(ps))
	for i, place := range places {
		points[place] = i
	}
	return order{sorted, points, places}
}

// between returns the places of the points whose first coordinate is in the range from low to high: from from to to - 1.
func (o order) between(low, high int) span {
	from := o.below(low)
	// No coordinate is greater than MaxCoord, and high + 1 could overflow.
	to := o.below(min(high, api.MaxCoord) + 1)
	return span{from, max(from, to)}
}

// below returns how many points have a first coordinate that is less than c.
func (o order) below(c int) int {
	// A key must not overflow, and beyond these bounds the result stays the same.
	c = min(max(c, -api.MaxCoord), api.MaxCoord+1)
	count, _ := ranks.Find(o.keys, key(c, -api.MaxCoord, 0))
	return count
}

// key returns a number for the point with index i and these coordinates. The numbers of points are in the order of the
// first coordinate, then of the second one, then of the index.
func key(first, second, i int) int {
	const side = 2*api.MaxCoord + 1
	return ((first+api.MaxCoord)*side+second+api.MaxCoord)*api.MaxPoints + i
}
