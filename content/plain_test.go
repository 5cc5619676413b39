package content

import (
	"bytes"
	"fmt"
	"slices"
	"sort"
	"testing"

	"lagoon/api"
	"lagoon/ops"
)

// What follows are the chapter's words, written down plainly, to hold the package against.

func plainLess(a, b api.ID) bool {
	return a.Time < b.Time || a.Time == b.Time && a.Node < b.Node
}

// plainAt gives what the vector has for the node.
func plainAt(v api.Vector, node int) int64 {
	if node < 0 || node > 63 || node >= len(v) || v[node] < 0 || v[node] > 1<<60 {
		return 0
	}
	return v[node]
}

func plainBehind(a, b api.Version) bool {
	return plainAt(b.Seen, a.Stamp.Node) >= a.Seq
}

func plainOf(o api.Op) api.Version {
	return api.Version{Stamp: o.Stamp, Seq: o.Seq, Seen: slices.Clone(o.Seen), Data: bytes.Clone(o.Data)}
}

// plainHeads holds each version against all others.
func plainHeads(os []api.Op) []api.Version {
	var heads []api.Version
	for i, o := range os {
		isHead := true
		for j, other := range os {
			if i != j && plainBehind(plainOf(o), plainOf(other)) {
				isHead = false
			}
		}
		if isHead {
			heads = append(heads, plainOf(o))
		}
	}
	sort.Slice(heads, func(i, j int) bool { return plainLess(heads[i].Stamp, heads[j].Stamp) })
	return heads
}

func sameVersion(a, b api.Version) bool {
	return a.Stamp == b.Stamp && a.Seq == b.Seq && slices.Equal(a.Seen, b.Seen) && bytes.Equal(a.Data, b.Data)
}

// pair is a file and the operations that it took.
type pair struct {
	t    *testing.T
	what string
	file *File
	os   []api.Op
}

func newPair(t *testing.T, what string) *pair {
	return &pair{t: t, what: what, file: New()}
}

// add adds operations one by one, and behind each holds all that the file answers against the words.
func (p *pair) add(os ...api.Op) *pair {
	p.t.Helper()
	for _, o := range os {
		why := p.answer(o)
		if e := p.file.Add(o); e != why {
			p.t.Fatalf("%s: Add(%.200v) = %d, want %d", p.what, fmt.Sprint(o), e, why)
		}
		if why == api.OK {
			o.Seen, o.Data = slices.Clone(o.Seen), bytes.Clone(o.Data)
			p.os = append(p.os, o)
		}
		p.want()
	}
	return p
}

func (p *pair) answer(o api.Op) api.Errno {
	if !ops.May(o) || o.Kind != api.KWrite {
		return api.EINVAL
	}
	for _, k := range p.os {
		if k.Stamp == o.Stamp {
			return api.EEXIST
		}
	}
	return api.OK
}

func (p *pair) want() *pair {
	p.t.Helper()
	heads := plainHeads(p.os)
	if got := p.file.Heads(); !slices.EqualFunc(got, heads, sameVersion) {
		p.t.Fatalf("%s: Heads = %.500v, want %.500v", p.what, fmt.Sprint(got), fmt.Sprint(heads))
	}
	var value []byte
	if len(heads) > 0 {
		value = heads[len(heads)-1].Data
	}
	if got := p.file.Value(); !bytes.Equal(got, value) {
		p.t.Fatalf("%s: Value = %.99q, want %.99q", p.what, got, value)
	}
	if size, n := p.file.Size(), p.file.Len(); size != len(value) || n != len(p.os) {
		p.t.Fatalf("%s: Size %d, Len %d, want %d, %d", p.what, size, n, len(value), len(p.os))
	}
	return p
}

// The operations of a test.

func id(time int64, node int) api.ID { return api.ID{Time: time, Node: node} }

// write writes at the time what its node has not seen, having seen so much.
func write(time int64, node int, data string, seen ...int64) api.Op {
	seq := plainAt(seen, node) + 1
	return api.Op{Stamp: id(time, node), Seq: seq, Kind: api.KWrite, Obj: id(1, 0), Data: []byte(data), Seen: seen}
}

// wantHeads holds what the heads hold, by rising stamps, and how many versions there are.
func wantHeads(t *testing.T, what string, f *File, count int, want ...string) {
	t.Helper()
	var got []string
	for _, v := range f.Heads() {
		got = append(got, string(v.Data))
	}
	if !slices.Equal(got, want) || f.Len() != count {
		t.Errorf("%s: heads %q of %d, want %q of %d", what, got, f.Len(), want, count)
	}
	value := ""
	if len(want) > 0 {
		value = want[len(want)-1]
	}
	if string(f.Value()) != value || f.Size() != len(value) {
		t.Errorf("%s: Value %q, Size %d, want %q", what, f.Value(), f.Size(), value)
	}
}

// noise gives numbers that hang on where it began alone.
type noise uint64

func (n *noise) below(limit int) int {
	*n = *n*6364136223846793005 + 1442695040888963407
	return int(*n>>33) % limit
}

// shuffled gives the operations in some order.
func (n *noise) shuffled(os []api.Op) []api.Op {
	os = slices.Clone(os)
	for i := range os {
		j := i + n.below(len(os)-i)
		os[i], os[j] = os[j], os[i]
	}
	return os
}

// orders gives each order of the operations.
func orders(os []api.Op) [][]api.Op {
	if len(os) == 0 {
		return [][]api.Op{nil}
	}
	var all [][]api.Op
	for _, rest := range orders(os[1:]) {
		for i := range len(rest) + 1 {
			all = append(all, slices.Insert(slices.Clone(rest), i, os[0]))
		}
	}
	return all
}
