package fds

import (
	"container/heap"

	"lagoon/api"
)

// numbers is a heap of numbers of a table, each of them at most once, the least one first.
type numbers struct {
	list  [api.MaxFds]int
	count int
}

// Len is heap.Interface's.
func (n *numbers) Len() int { return n.count }

// Less is heap.Interface's.
func (n *numbers) Less(i, j int) bool { return n.list[i] < n.list[j] }

// Swap is heap.Interface's.
func (n *numbers) Swap(i, j int) { n.list[i], n.list[j] = n.list[j], n.list[i] }

// Push is heap.Interface's.
func (n *numbers) Push(x any) {
	n.list[n.count] = x.(int)
	n.count++
}

// Pop is heap.Interface's.
func (n *numbers) Pop() any {
	n.count--
	return n.list[n.count]
}

func (n *numbers) add(number int) { heap.Push(n, number) }

// least takes out the least number.
func (n *numbers) least() int { return heap.Pop(n).(int) }
