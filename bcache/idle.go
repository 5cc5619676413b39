package bcache

// nowhere is the place of an entry that is not among the idle ones.
const nowhere = -1

// entry is a block that is held.
type entry struct {
	block int
	data  []byte // never written into: a Put brings a new one
	pins  int
	dirty bool
	used  int // the greater, the later
	at    int // where it stands among the idle ones
}

func (x *entry) isIdle() bool {
	return x.pins == 0 && !x.dirty
}

// idle is a heap of the entries that may be taken out, the least lately used one first. Each knows its place, so that a use can move it.
type idle []*entry

// Len is heap.Interface's.
func (h idle) Len() int { return len(h) }

// Less is heap.Interface's. No two entries have the same last use.
func (h idle) Less(i, j int) bool { return h[i].used < h[j].used }

// Swap is heap.Interface's.
func (h idle) Swap(i, j int) {
	h[i], h[j] = h[j], h[i]
	h[i].at, h[j].at = i, j
}

// Push is heap.Interface's.
func (h *idle) Push(x any) {
	added := x.(*entry)
	added.at = len(*h)
	*h = append(*h, added)
}

// Pop is heap.Interface's.
func (h *idle) Pop() any {
	last := len(*h) - 1
	x := (*h)[last]
	// The heap's memory must not keep what was taken out.
	(*h)[last] = nil
	*h = (*h)[:last]
	x.at = nowhere
	return x
}
