package oplog

import (
	"container/heap"

	"lagoon/api"
	"lagoon/clock"
	"lagoon/vector"
)

// queue is what is left of a node's list: never nothing, while it stands in the heap.
type queue []api.Op

// byStamp is a heap of queues, the one with the least stamp first. A node's stamps rise, so that is the least stamp of all.
type byStamp []queue

// Len is heap.Interface's.
func (h byStamp) Len() int { return len(h) }

// Less is heap.Interface's. No two operations have the same stamp.
func (h byStamp) Less(i, j int) bool { return clock.Less(h[i][0].Stamp, h[j][0].Stamp) }

// Swap is heap.Interface's.
func (h byStamp) Swap(i, j int) { h[i], h[j] = h[j], h[i] }

// Push is heap.Interface's.
func (h *byStamp) Push(x any) { *h = append(*h, x.(queue)) }

// Pop is heap.Interface's.
func (h *byStamp) Pop() any {
	last := len(*h) - 1
	x := (*h)[last]
	*h = (*h)[:last]
	return x
}

// take takes out the operation with the least stamp.
func (h *byStamp) take() api.Op {
	first := heap.Pop(h).(queue)
	if len(first) > 1 {
		heap.Push(h, first[1:])
	}
	return first[0]
}

// past gives the operations that v has not.
func (h *held) past(v api.Vector) *byStamp {
	left := &byStamp{}
	for node, list := range h.lists {
		if has := vector.At(v, node); has < int64(len(list)) {
			heap.Push(left, queue(list[has:]))
		}
	}
	return left
}
