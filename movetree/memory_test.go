package movetree

import (
	"bytes"
	"fmt"
	"slices"
	"testing"

	"lagoon/api"
	"lagoon/ops"
)

// roomy gives the operations with lists that have spare room, which holds something, and a look at all of their memory.
func roomy(os []api.Op) ([]api.Op, func() string) {
	out := []api.Op{}
	for i, o := range os {
		o.Seen = append(make(api.Vector, o.Stamp.Node), 4)
		o.Seq = 5
		data := append(bytes.Clone(o.Data), "spare bytes"...)
		seen := append(slices.Clone(o.Seen), 0, int64(i), 12)
		o.Data, o.Seen = data[:len(o.Data)], seen[:len(o.Seen)+1]
		out = append(out, o)
	}
	return out, func() string {
		all := ""
		for _, o := range out {
			all += fmt.Sprintln(o, o.Data[:cap(o.Data)], o.Seen[:cap(o.Seen)])
		}
		return all
	}
}

// spoil writes over all memory of the operations, spare room too.
func spoil(os []api.Op) {
	for _, o := range os {
		data, seen := o.Data[:cap(o.Data)], o.Seen[:cap(o.Seen)]
		for i := range data {
			data[i] ^= 0xff
		}
		for i := range seen {
			seen[i] ^= 0xff
		}
	}
	clear(os)
}

func spoilIDs(ids []api.ID) {
	ids = ids[:cap(ids)]
	for i := range ids {
		ids[i] = at(77)
	}
}

func TestOperationsAreTheCallersOwn(t *testing.T) { // P0.3
	for _, order := range some(append(base(), move(at(10), a, d, "x"), write(at(11), f, "some data"), move(at(12), d, a, "y"))) {
		os, memory := roomy(order)
		before := memory()
		p := newPair(t, "a tree").apply(os...).want()
		p.apply(os...)
		if memory() != before {
			t.Error("Apply changed what was handed in")
		}
		spoil(os)
		p.want()
		p.apply(move(at(9), f, d, "late"), move(id(1, 1), at(1), ops.Trash(), "early")).want()
	}
}

func TestNilAndEmptyListsAreTheSame(t *testing.T) { // P0.4
	for _, seen := range []api.Vector{nil, {}, {0}, make(api.Vector, 64)} {
		for _, data := range [][]byte{nil, {}} {
			p := newPair(t, "a tree")
			for _, o := range append(base(), write(at(10), f, "")) {
				o.Seen, o.Data = seen, data
				p.apply(o)
			}
			wantShape(t, "a tree", p.want().tree, plainShape)
		}
	}
}

func TestKidsAreNewMemory(t *testing.T) { // P0.3
	p := newPair(t, "a tree").apply(base()...).apply(move(at(10), c, ops.Trash(), "x"))
	for _, id := range append(p.ids(), ops.Root(), ops.Trash()) {
		first, second := p.tree.Kids(id), p.tree.Kids(id)
		want := slices.Clone(second)
		spoilIDs(first)
		if !slices.Equal(second, want) {
			t.Errorf("Kids(%v): writing into one answer changed another one", id)
		}
		p.want()
		_ = append(second, at(78))
		p.want()
	}
	// An answer stays as it was, whatever comes then.
	kids := p.tree.Kids(a)
	want := slices.Clone(kids)
	p.apply(move(at(11), f, d, "y"), file(at(12), a, "z"), file(id(1, 1), a, "late")).want()
	if !slices.Equal(kids, want) {
		t.Errorf("an earlier answer is %v, was %v", kids, want)
	}
}

func TestTreesKnowNothingOfEachOther(t *testing.T) { // P0.5
	n := noise(9)
	one, two, none := newPair(t, "one"), newPair(t, "two"), newPair(t, "none")
	os := append(base(), move(at(10), a, d, "x"), move(at(11), d, c, "y"), write(at(12), f, "z"))
	other := n.shuffled(os)
	for i, o := range n.shuffled(os) {
		one.apply(o)
		if i%2 == 0 {
			two.apply(other[i]).want()
		}
		one.want()
		none.want()
	}
	two.apply(dir(at(20), ops.Root(), "of two alone")).want()
	one.apply(file(at(20), ops.Root(), "of one alone")).want()
	two.want()
}
