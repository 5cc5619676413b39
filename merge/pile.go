package merge

import (
	"container/heap"

	"lagoon/api"
	"lagoon/clock"
)

// held is an operation that is in a queue, its turn among those that came, and what a search has found out of it, so that the next one need not ask again.
type held struct {
	op      api.Op
	came    int
	checked int   // none of those that came ahead of this turn is less than it
	behind  *held // one that is less than it, while that one is not out
	out     bool
}

// pile is a heap of operations: by less, and of those of which neither is less by their turns.
//
// While each two different stamps that it met had a lesser one, the heap's first one is less than all others, or came ahead of those with its stamp, for less goes from parent to child and on. Of stamps that are loose (neither is less) that does not hold: c may be loose from both a and b, and a less than b all the same. From then on the first one is searched for.
type pile struct {
	list   []*held
	less   func(a, b api.ID) bool
	came   int  // how many came
	loose  bool // two different stamps were met of which neither is less
	asking bool // less is being asked
}

// Len is heap.Interface's.
func (p *pile) Len() int { return len(p.list) }

// Less is heap.Interface's.
func (p *pile) Less(i, j int) bool {
	a, b := p.list[i], p.list[j]
	if p.isLess(a, b) {
		return true
	}
	if p.isLess(b, a) {
		return false
	}
	if a.op.Stamp != b.op.Stamp {
		p.loose = true
	}
	return a.came < b.came
}

// Swap is heap.Interface's.
func (p *pile) Swap(i, j int) { p.list[i], p.list[j] = p.list[j], p.list[i] }

// Push is heap.Interface's.
func (p *pile) Push(x any) { p.list = append(p.list, x.(*held)) }

// Pop is heap.Interface's.
func (p *pile) Pop() any {
	last := len(p.list) - 1
	x := p.list[last]
	p.list[last] = nil
	p.list = p.list[:last]
	return x
}

// add puts an operation into the heap; it is the pile's own from now on.
func (p *pile) add(o api.Op) {
	heap.Push(p, &held{op: o, came: p.came})
	p.came++
}

// take takes out the first one. Others may still know that they are behind it, so it forgets all but that it is out.
func (p *pile) take() api.Op {
	one := heap.Remove(p, p.first()).(*held)
	o := one.op
	*one = held{out: true}
	return o
}

// first gives the place of the one that came first of those with no other less than it. If there is none, less is no strict order, and any place will do.
func (p *pile) first() int {
	if !p.loose {
		return 0
	}
	best := -1
	for i, one := range p.list {
		if (best < 0 || one.came < p.list[best].came) && p.isLeast(one) {
			best = i
		}
	}
	return max(best, 0)
}

// isLeast tells whether no other is less than the one.
func (p *pile) isLeast(one *held) bool {
	if one.behind != nil && !one.behind.out {
		return false
	}
	if one.checked == p.came {
		return true
	}
	for _, other := range p.list {
		if other.came >= one.checked && other != one && p.isLess(other, one) {
			one.behind = other
			return false
		}
	}
	one.checked = p.came
	return true
}

// isLess asks the order; one that panics has not said true. It might call the queue, whose heap is half done then, so the queue takes and gives nothing meanwhile.
func (p *pile) isLess(a, b *held) (yes bool) {
	if p.less == nil {
		return clock.Less(a.op.Stamp, b.op.Stamp)
	}
	p.asking = true
	defer func() {
		_ = recover()
		p.asking = false
	}()
	return p.less(a.op.Stamp, b.op.Stamp)
}
