package localdir

import "container/heap"

// byName is a heap of entries, the one with the least name first.
type byName []entry

// Len is heap.Interface's.
func (h byName) Len() int { return len(h) }

// Less is heap.Interface's. No two entries have the same name.
func (h byName) Less(i, j int) bool { return h[i].name < h[j].name }

// Swap is heap.Interface's.
func (h byName) Swap(i, j int) { h[i], h[j] = h[j], h[i] }

// Push is heap.Interface's.
func (h *byName) Push(x any) { *h = append(*h, x.(entry)) }

// Pop is heap.Interface's.
func (h *byName) Pop() any {
	last := len(*h) - 1
	x := (*h)[last]
	*h = (*h)[:last]
	return x
}

func (h *byName) add(e entry) { heap.Push(h, e) }

// least takes out the entry with the least name.
func (h *byName) least() entry { return heap.Pop(h).(entry) }

// list gathers names.
type list []string

func (l *list) add(name string, _ int) { *l = append(*l, name) }
