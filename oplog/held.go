package oplog

import (
	"bytes"
	"strings"

	"lagoon/api"
	"lagoon/clock"
	"lagoon/ops"
	"lagoon/vector"
)

const overhead = 16 // what an operation costs beside its bytes

// held is what a log holds. It is a value: a call makes the next one of it, and the log goes over to that one when the files have it. The two share the lists' memory, but each sees of it what its own lengths say.
type held struct {
	lists [api.MaxNodes][]api.Op // by nodes; the operation Seq stands at Seq - 1
	cost  int
	size  int    // how many bytes of the parts are the log's
	meta  []byte // never written into
}

func costOf(o api.Op) int { return ops.Cost(o) + overhead }

// copyOf gives an operation that shares no memory with o.
func copyOf(o api.Op) api.Op {
	o.Name = strings.Clone(o.Name)
	o.Data = bytes.Clone(o.Data)
	o.Seen = vector.Norm(o.Seen)
	return o
}

func (h *held) vector() api.Vector {
	counts := make(api.Vector, len(h.lists))
	for node := range h.lists {
		counts[node] = int64(len(h.lists[node]))
	}
	return vector.Norm(counts)
}

// takes tells whether the operation may be the next one of its node.
func (h *held) takes(o api.Op) bool {
	if !ops.May(o) {
		return false
	}
	v := h.vector()
	return o.Seq == vector.At(v, o.Stamp.Node)+1 && vector.Leq(o.Seen, v) && h.isLater(o)
}

// isLater tells whether the operation's stamp is greater than those of all that it has seen, which must be there. A node's stamps rise, so the last one that was seen of it stands for all.
func (h *held) isLater(o api.Op) bool {
	for node := range h.lists {
		seen := vector.At(o.Seen, node)
		if seen > 0 && !clock.Less(h.lists[node][seen-1].Stamp, o.Stamp) {
			return false
		}
	}
	return true
}

// add adds an operation that is taken.
func (h *held) add(o api.Op) {
	list := &h.lists[o.Stamp.Node]
	*list = append(*list, copyOf(o))
	h.cost += costOf(o)
}

// addUpTo adds the operations up to the first one that can't be, and tells how many these are, and what is wrong with that one.
func (h *held) addUpTo(os []api.Op, room int) (int, api.Errno) {
	for i, o := range os {
		if !h.takes(o) {
			return i, api.EINVAL
		}
		if h.cost+costOf(o) > room {
			return i, api.ENOSPC
		}
		h.add(o)
	}
	return len(os), api.OK
}
