package merge

import (
	"container/heap"

	"icehouse/api"
)

// row: what is left of one of the rows, never nothing.
type row struct {
	left []api.Entry
	// place among the rows: it tells which of equal entries is meant.
	place int
}

// heads: rows in a heap, by the entries that they begin with.
type heads struct {
	rows   []row
	newest bool
}

// headsOf: those of the rows that are not empty.
func headsOf(rows [][]api.Entry, newest bool) heads {
	h := heads{newest: newest}
	for i, l := range rows {
		if len(l) > 0 {
			h.rows = append(h.rows, row{left: l, place: i})
		}
	}
	heap.Init(&h)
	return h
}

// take: the entry that comes first, away from its row. There must be one.
func (h *heads) take() api.Entry {
	first := heap.Pop(h).(row)
	x := first.left[0]
	first.left = first.left[1:]
	if len(first.left) > 0 {
		heap.Push(h, first)
	}
	return x
}

// Len, Less, Swap, Push and Pop are what the library's heap asks for.
func (h *heads) Len() int { return len(h.rows) }

func (h *heads) Less(i, j int) bool {
	a, b := h.rows[i], h.rows[j]
	switch x, y := a.left[0], b.left[0]; {
	case comesFirst(x, y, h.newest):
		return true
	case comesFirst(y, x, h.newest):
		return false
	}
	return a.place < b.place
}

func (h *heads) Swap(i, j int) { h.rows[i], h.rows[j] = h.rows[j], h.rows[i] }

func (h *heads) Push(x any) { h.rows = append(h.rows, x.(row)) }

func (h *heads) Pop() any {
	last := len(h.rows) - 1
	x := h.rows[last]
	h.rows = h.rows[:last]
	return x
}
