package oplog

import (
	"bytes"
	"fmt"
	"slices"
	"sort"
	"testing"

	"lagoon/api"
	"lagoon/device"
	"lagoon/localfs"
	"lagoon/ops"
)

// noise gives numbers that hang on its first one alone.
type noise uint64

func (n *noise) below(limit int) int {
	*n = *n*6364136223846793005 + 1442695040888963407
	return int(uint64(*n)>>33) % limit
}

func (n *noise) bytes(size int) []byte {
	b := make([]byte, size)
	for i := range b {
		b[i] = byte(n.below(256))
	}
	return b
}

// What follows are the chapter's Words, written down plainly, to hold the package against.

// plain is a log: its operations in the order in which they came.
type plain struct {
	ops  []api.Op
	room int
	meta string
}

func plainLess(a, b api.ID) bool {
	return a.Time < b.Time || a.Time == b.Time && a.Node < b.Node
}

// at is a vector's number; a number that no vector may have is 0.
func at(v api.Vector, node int) int64 {
	if node < 0 || node > 63 || node >= len(v) || v[node] < 0 || v[node] > 1<<60 {
		return 0
	}
	return v[node]
}

func (p plain) count(node int) int64 {
	n := int64(0)
	for _, o := range p.ops {
		if o.Stamp.Node == node {
			n++
		}
	}
	return n
}

func (p plain) takes(o api.Op) bool {
	if !ops.May(o) || o.Seq != p.count(o.Stamp.Node)+1 {
		return false
	}
	for node := range 64 {
		if at(o.Seen, node) > p.count(node) {
			return false
		}
	}
	for _, k := range p.ops {
		if k.Seq <= at(o.Seen, k.Stamp.Node) && !plainLess(k.Stamp, o.Stamp) {
			return false
		}
	}
	return true
}

func plainCost(os ...api.Op) int {
	sum := 0
	for _, o := range os {
		b, _ := ops.Encode(o)
		sum += len(b) + 16
	}
	return sum
}

// after gives the log behind an Add, and what that answers.
func (p plain) after(os ...api.Op) (plain, int, api.Errno) {
	p.ops = slices.Clip(p.ops)
	cost := plainCost(p.ops...)
	for i, o := range os {
		if !p.takes(o) {
			return p, i, api.EINVAL
		}
		if cost += plainCost(o); cost > p.room {
			return p, i, api.ENOSPC
		}
		p.ops = append(p.ops, o)
	}
	return p, len(os), api.OK
}

func (p plain) since(v api.Vector, most int) []api.Op {
	var out []api.Op
	for _, o := range p.ops {
		if o.Seq > at(v, o.Stamp.Node) {
			out = append(out, o)
		}
	}
	sort.Slice(out, func(i, j int) bool { return plainLess(out[i].Stamp, out[j].Stamp) })
	return out[:max(0, min(most, len(out)))]
}

// vector has no zeros at its end.
func (p plain) vector() api.Vector {
	var v api.Vector
	for node := range 64 {
		if n := p.count(node); n > 0 {
			v = append(append(v, make(api.Vector, node-len(v))...), n)
		}
	}
	return v
}

// with is the log behind an Add that takes all.
func (p plain) with(t *testing.T, os ...api.Op) plain {
	t.Helper()
	next, n, e := p.after(os...)
	if n != len(os) || e != api.OK {
		t.Fatalf("%d of %d are taken, %d: the test itself is wrong", n, len(os), e)
	}
	return next
}

// dir gives an operation that makes a directory, of a node that has seen so much.
func dir(node int, time int64, seen ...int64) api.Op {
	id := api.ID{Time: time, Node: node}
	return api.Op{Stamp: id, Seq: at(seen, node) + 1, Kind: api.KDir, Obj: id, Name: "d", Seen: seen}
}

// write gives an operation that writes data.
func write(node int, time int64, data []byte, seen ...int64) api.Op {
	return api.Op{Stamp: api.ID{Time: time, Node: node}, Seq: at(seen, node) + 1, Kind: api.KWrite, Obj: api.ID{Time: 1}, Data: data, Seen: seen}
}

// sized gives the node's next operation behind the log, a write of such a cost.
func (p plain) sized(t *testing.T, node int, cost int) api.Op {
	t.Helper()
	time := int64(100)
	for _, o := range p.ops {
		time = max(time, o.Stamp.Time)
	}
	seen := make(api.Vector, node+1)
	seen[node] = p.count(node)
	o := write(node, time+1, nil, seen...)
	for range 4 { // the length takes bytes, too
		o.Data = make([]byte, max(0, len(o.Data)+cost-plainCost(o)))
	}
	if plainCost(o) != cost {
		t.Fatalf("a write costs %d, not %d: the test itself is wrong", plainCost(o), cost)
	}
	for i := range o.Data {
		o.Data[i] = byte(i*7 + int(o.Seq))
	}
	return o
}

// blocksOf gives how many blocks a device of the capacity has.
func blocksOf(capacity int) int { return 16*(capacity+2) + 8 }

// roomOf gives the room that a capacity has by Words.
func roomOf(capacity int) int { return 128*capacity - 4096 }

// formatted is a device with an empty file system.
func formatted(t *testing.T, capacity int) *device.Device {
	t.Helper()
	d := device.New(blocksOf(capacity))
	if e := localfs.Mkfs(d); e != api.OK {
		t.Fatalf("Mkfs = %d", e)
	}
	return d
}

func mounted(t *testing.T, d *device.Device) *localfs.FS {
	t.Helper()
	f, e := localfs.Mount(d)
	if e != api.OK {
		t.Fatalf("Mount = %d", e)
	}
	return f
}

func opened(t *testing.T, f *localfs.FS, room int) *Log {
	t.Helper()
	l, e := Open(f, room)
	if l == nil || e != api.OK {
		t.Fatalf("Open = %v, %d", l, e)
	}
	return l
}

// made is a new log, with the room that its capacity has by Words.
func made(t *testing.T, capacity int) (*device.Device, *Log, plain) {
	t.Helper()
	d := formatted(t, capacity)
	return d, opened(t, mounted(t, d), roomOf(capacity)), plain{room: roomOf(capacity)}
}

// mustAdd adds operations all of which are taken.
func mustAdd(t *testing.T, l *Log, p plain, os ...api.Op) plain {
	t.Helper()
	next := p.with(t, os...)
	if n, e := l.Add(os...); n != len(os) || e != api.OK {
		t.Fatalf("Add of %d = %d, %d", len(os), n, e)
	}
	return next
}

// mustSet sets Meta.
func mustSet(t *testing.T, l *Log, p plain, meta string) plain {
	t.Helper()
	if e := l.SetMeta([]byte(meta)); e != api.OK {
		t.Fatalf("SetMeta = %d", e)
	}
	p.meta = meta
	return p
}

// add adds operations to both, and holds the answers against each other.
func add(t *testing.T, l *Log, p plain, os ...api.Op) plain {
	t.Helper()
	next, want, why := p.after(os...)
	if n, e := l.Add(os...); n != want || e != why {
		t.Fatalf("Add of %d = %d, %d; want %d, %d", len(os), n, e, want, why)
	}
	return next
}

// wantSame holds operations against each other; those of an answer have Seen in normal form.
func wantSame(t *testing.T, what string, got, want []api.Op) {
	t.Helper()
	if len(got) != len(want) {
		t.Errorf("%s: %d operations, want %d", what, len(got), len(want))
		return
	}
	for i, o := range got {
		if !ops.Eq(o, want[i]) || len(o.Seen) > 0 && o.Seen[len(o.Seen)-1] == 0 {
			t.Errorf("%s: operation %d is %.200v, want %.200v", what, i, fmt.Sprint(o), fmt.Sprint(want[i]))
		}
	}
}

// wantLog holds all that the log answers against the plain one.
func wantLog(t *testing.T, l *Log, p plain) {
	t.Helper()
	if v := l.Vector(); !slices.Equal(v, p.vector()) {
		t.Errorf("Vector = %v, want %v", v, p.vector())
	}
	if c := l.Cost(); c != plainCost(p.ops...) || l.Fits() != (c <= p.room) {
		t.Errorf("Cost = %d, Fits() %v; want %d of a room of %d", c, l.Fits(), plainCost(p.ops...), p.room)
	}
	if m := l.Meta(); string(m) != p.meta {
		t.Errorf("Meta = %q, want %q", m, p.meta)
	}
	wantSame(t, "Since", l.Since(nil, len(p.ops)+1), p.since(nil, len(p.ops)+1))
	for _, o := range p.ops {
		if k, ok := l.Get(o.Stamp.Node, o.Seq); !ok || !ops.Eq(k, o) {
			t.Errorf("Get(%d, %d) = %.100v, %v", o.Stamp.Node, o.Seq, k, ok)
		}
	}
}

// isLike tells whether the log is the plain one.
func isLike(l *Log, p plain) bool {
	same := func(a, b api.Op) bool { return ops.Eq(a, b) }
	return string(l.Meta()) == p.meta && slices.EqualFunc(l.Since(nil, len(p.ops)+1), p.since(nil, len(p.ops)+1), same)
}

// image gives all files of the file system.
func image(t *testing.T, f *localfs.FS) string {
	t.Helper()
	entries, e := f.List(nil)
	if e != api.OK {
		t.Fatalf("List = %d", e)
	}
	var all bytes.Buffer
	for _, x := range entries {
		b, _ := f.Read([]string{x.Name}, 0, x.Size)
		fmt.Fprintf(&all, "%q %v %d %x\n", x.Name, x.Dir, x.Size, b)
	}
	return all.String()
}

// some are operations of three nodes, of all kinds, that one log takes in this order; their stamps come in another one.
func some() []api.Op {
	one := dir(0, 10)
	two := api.Op{Stamp: api.ID{Time: 11}, Seq: 2, Kind: api.KFile, Obj: api.ID{Time: 11}, Parent: one.Obj, Name: "file", Seen: api.Vector{1}}
	three := dir(1, 3)
	four := write(5, 12, []byte("some bytes"), 2, 1, 0, 0, 0, 0, 0)
	four.Obj = two.Obj
	five := api.Op{Stamp: api.ID{Time: 4, Node: 1}, Seq: 2, Kind: api.KMove, Obj: api.ID{Time: 2}, Parent: ops.Trash(), Name: "gone", Seen: api.Vector{0, 1}}
	six := write(0, 13, make([]byte, 900), 2, 2, 0, 0, 0, 1)
	six.Obj = two.Obj
	return []api.Op{one, two, three, four, five, six}
}

// keeps are ways in which a crash of d keeps what is loose.
func keeps(d *device.Device) map[string]func(int) bool {
	k := map[string]func(int) bool{
		"nil":   nil,
		"all":   func(int) bool { return true },
		"none":  func(int) bool { return false },
		"even":  func(i int) bool { return i%2 == 0 },
		"odd":   func(i int) bool { return i%2 == 1 },
		"head":  func(i int) bool { return i == 0 },
		"rest":  func(i int) bool { return i != 0 },
		"early": func(i int) bool { return i < d.Blocks()/3 },
		"late":  func(i int) bool { return i >= d.Blocks()/3 },
		"wild":  func(i int) bool { panic(i) },
		"calls": func(i int) bool { d.Read(i); d.Crash(nil); return i%3 == 0 },
	}
	for seed := range 3 {
		n := noise(seed)
		k[fmt.Sprint("noise", seed)] = func(int) bool { return n.below(2) == 0 }
	}
	return k
}

func all(int) bool { return true }
