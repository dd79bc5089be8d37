package grid

import (
	"container/heap"

	"damask/api"
)

// pointHeap has indices of points. The one that leaves it next is the one that comes before all others.
type pointHeap struct {
	points []int
	before func(i, j int) bool
}

func (h *pointHeap) Len() int           { return len(h.points) }
func (h *pointHeap) Less(a, b int) bool { return h.before(h.points[a], h.points[b]) }
func (h *pointHeap) Swap(a, b int)      { h.points[a], h.points[b] = h.points[b], h.points[a] }
func (h *pointHeap) Push(point any)     { h.points = append(h.points, point.(int)) }

func (h *pointHeap) Pop() any {
	last := len(h.points) - 1
	point := h.points[last]
	h.points = h.points[:last]
	return point
}

// heaviest returns the k points of the given ones with the largest weights, or all of them if there are fewer, by
// decreasing weight, those of equal weight by index.
func heaviest(ps []api.Point, points []int, k int) []int {
	// Of more than k points, the one that leaves the heap is the one that comes last in the result.
	h := &pointHeap{before: func(i, j int) bool {
		if ps[i].W != ps[j].W {
			return ps[i].W < ps[j].W
		}
		return i > j
	}}
	for _, i := range points {
		heap.Push(h, i)
		if h.Len() > k {
			heap.Pop(h)
		}
	}
	top := make([]int, h.Len())
	for place := len(top) - 1; place >= 0; place-- {
		top[place] = heap.Pop(h).(int)
	}
	return top
}
