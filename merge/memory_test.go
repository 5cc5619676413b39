package merge

import (
	"bytes"
	"fmt"
	"slices"
	"testing"

	"lagoon/api"
)

// roomy gives the operations with lists that have spare room, which holds something, and a look at all of their memory.
func roomy(os []api.Op) ([]api.Op, func() string) {
	out := slices.Grow([]api.Op(nil), len(os)+3)
	for _, o := range os {
		data := append(bytes.Clone(o.Data), "spare bytes"...)
		seen := append(slices.Clone(o.Seen), 11, 12, 13)
		o.Data, o.Seen = data[:len(o.Data)], seen[:len(o.Seen)]
		out = append(out, o)
	}
	whole := out[:cap(out)]
	whole[len(os)].Name, whole[len(os)].Seq = "spare", 99
	return out, func() string {
		var all bytes.Buffer
		for _, o := range whole {
			fmt.Fprintln(&all, o, o.Data[:cap(o.Data)], o.Seen[:cap(o.Seen)])
		}
		return all.String()
	}
}

// spoil writes over all memory of the operations, spare room too.
func spoil(os []api.Op) {
	for _, o := range os {
		data, seen := o.Data[:cap(o.Data)], o.Seen[:cap(o.Seen)]
		for i := range data {
			data[i] ^= 0xff
		}
		for i := range seen {
			seen[i] ^= 0xff
		}
	}
	clear(os[:cap(os)])
}

// filled has operations with lists, in no order, some of equal stamps, some with empty lists.
func filled() []api.Op {
	var os []api.Op
	for i := range 12 {
		o := full(id(int64(i*5%4), i%2), i)
		if i%4 == 3 {
			o.Data, o.Seen = []byte{}, api.Vector{}
		}
		os = append(os, o)
	}
	return os
}

func TestSortedNeitherChangesNorSharesLists(t *testing.T) { // P0.3
	a, memory := roomy(filled())
	b, other := roomy(filled()[:5])
	before, beforeOther := memory(), other()
	first, second := Sorted(a, b, a[2:4]), Sorted(a, b, a[2:4])
	if memory() != before || other() != beforeOther {
		t.Error("what was handed in is changed")
	}
	want := plainSorted(filled(), filled()[:5], filled()[2:4])
	spoil(first)
	if memory() != before || other() != beforeOther {
		t.Error("writing into an answer changed what was handed in")
	}
	wantList(t, "another answer", second, want)
	spoil(a)
	spoil(b)
	wantList(t, "an answer behind which the lists were changed", second, want)
}

// A list of one answer written over, the others stay.
func TestListsOfAnAnswerShareNothing(t *testing.T) { // P0.3
	for at := range filled() {
		sorted, want := Sorted(filled(), filled()), plainSorted(filled(), filled())
		spoil(sorted[at : at+1 : at+1])
		wantList(t, "the others", sorted[at+1:], want[at+1:])
		wantList(t, "the others", sorted[:at], want[:at])
	}
	// The same operation twice, its lists the same memory.
	o := full(id(1, 1), 1)
	sorted := Sorted([]api.Op{o, o}, []api.Op{o})
	spoil(sorted[:1:1])
	wantList(t, "the others", append(sorted[1:], o), []api.Op{full(id(1, 1), 1), full(id(1, 1), 1), full(id(1, 1), 1)})
}

func TestPushNeitherChangesNorKeepsLists(t *testing.T) { // P0.3
	for what, less := range strict() {
		p := newPair(t, what, less)
		os, memory := roomy(filled())
		before := memory()
		for i, o := range os {
			p.queue.Push(o)
			p.plain.list = append(p.plain.list, filled()[i])
		}
		p.wantPeek()
		if memory() != before {
			t.Errorf("%s: what was handed in is changed", what)
		}
		spoil(os)
		p.drain()
	}
}

func TestPeekGivesNewMemory(t *testing.T) { // P0.3
	for what, less := range strict() {
		p := newPair(t, what, less)
		for _, o := range filled() {
			p.push(o)
		}
		for range filled() {
			o, _ := p.queue.Peek()
			k, _ := p.queue.Peek()
			spoil([]api.Op{o})
			want, _ := p.plain.peek()
			wantOp(t, what+": another Peek", k, true, want, true)
			p.wantPeek()
			p.pop()
		}
	}
}

func TestPopGivesNewMemory(t *testing.T) { // P0.3
	for what, less := range strict() {
		p := newPair(t, what, less)
		os, memory := roomy(append(filled(), filled()...))
		before := memory()
		for i, o := range os {
			p.queue.Push(o)
			p.plain.list = append(p.plain.list, filled()[i%12])
		}
		for range filled() {
			peeked, _ := p.queue.Peek()
			o, _ := p.queue.Pop()
			spoil([]api.Op{o})
			want, _ := p.plain.pop()
			wantOp(t, what+": the Peek ahead", peeked, true, want, true)
			if memory() != before {
				t.Fatalf("%s: writing into what Pop gave changed what was handed in", what)
			}
		}
		p.drain()
	}
}
