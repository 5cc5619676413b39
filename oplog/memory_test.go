package oplog

import (
	"bytes"
	"fmt"
	"math"
	"slices"
	"testing"

	"lagoon/api"
)

// roomy gives the operations with lists that have spare room, which holds something, and a look at all of their memory.
func roomy(os []api.Op) ([]api.Op, func() string) {
	out := slices.Grow([]api.Op(nil), len(os)+3)
	for _, o := range os {
		data := append(bytes.Clone(o.Data), "spare bytes"...)
		seen := append(slices.Clone(o.Seen), 0, 0, 11, 12, 13)
		o.Data, o.Seen = data[:len(o.Data)], seen[:len(o.Seen)+2]
		out = append(out, o)
	}
	whole := out[:cap(out)]
	whole[len(os)].Name, whole[len(os)].Seq = "spare", 99
	return out, func() string {
		var all bytes.Buffer
		for _, o := range whole {
			fmt.Fprintln(&all, o, o.Data[:cap(o.Data)], o.Seen[:cap(o.Seen)])
		}
		return all.String()
	}
}

// spoil writes over all memory of the operations, spare room too.
func spoil(os []api.Op) {
	for _, o := range os {
		spoilBytes(o.Data)
		spoilNumbers(o.Seen)
	}
	clear(os[:cap(os)])
}

func spoilBytes(b []byte) {
	b = b[:cap(b)]
	for i := range b {
		b[i] ^= 0xff
	}
}

func spoilNumbers(v api.Vector) {
	v = v[:cap(v)]
	for i := range v {
		v[i] ^= 0xff
	}
}

func TestWhatIsHandedInIsNeitherChangedNorKept(t *testing.T) { // P0.3
	for _, room := range []int{5000, 700, 40, 0} {
		for _, list := range [][]api.Op{some(), append(some(), api.Op{}), slices.Insert(some(), 2, some()[0]), {api.Op{}}} {
			d := formatted(t, 60)
			l := opened(t, mounted(t, d), room)
			os, memory := roomy(list)
			before := memory()
			l.Fits(os...)
			p := add(t, l, plain{room: room}, os...)
			wrote := memory()
			if wrote != before {
				t.Error("an Add or a Fits changed what was handed in")
			}
			p.ops = append([]api.Op(nil), list[:len(p.ops)]...)
			spoil(os)
			wantLog(t, l, p)
			wantLog(t, opened(t, mounted(t, d), room), p)
		}
	}
}

func TestMetaAndVectorsThatAreHandedIn(t *testing.T) { // P0.3
	d, l, p := made(t, 60)
	p = mustAdd(t, l, p, some()...)
	room := []byte("meta and more")
	if e := l.SetMeta(room[:4]); e != api.OK || string(room) != "meta and more" {
		t.Errorf("SetMeta = %d, and what was handed in is %q", e, room)
	}
	spoilBytes(room)
	p.meta = "meta"
	wantLog(t, l, p)
	wantLog(t, opened(t, mounted(t, d), p.room), p)
	v := api.Vector{1, 0, 0, 7, 8}
	l.Since(v[:3], 3)
	if !slices.Equal(v, api.Vector{1, 0, 0, 7, 8}) {
		t.Errorf("Since changed the vector: %v", v)
	}
}

func TestAnswersAreNewMemory(t *testing.T) { // P0.3
	d, l, p := made(t, 60)
	p = mustAdd(t, l, p, some()...)
	p = mustSet(t, l, p, "some meta")
	for _, l := range []*Log{l, opened(t, mounted(t, d), p.room)} {
		other := l.Since(nil, 99)
		one, _ := l.Get(5, 1)
		v, w, meta, more := l.Vector(), l.Vector(), l.Meta(), l.Meta()
		spoil(l.Since(nil, 99))
		spoil(l.Since(api.Vector{1}, 2))
		for _, o := range p.ops {
			k, _ := l.Get(o.Stamp.Node, o.Seq)
			spoil([]api.Op{k})
		}
		spoilNumbers(v)
		spoilBytes(meta)
		wantLog(t, l, p)
		wantSame(t, "an earlier answer", other, p.since(nil, 99))
		wantSame(t, "an earlier answer", []api.Op{one}, some()[3:4])
		if !slices.Equal(w, p.vector()) || string(more) != p.meta {
			t.Errorf("earlier answers: %v, %q", w, more)
		}
	}
	wantLog(t, opened(t, mounted(t, d), p.room), p)
}

func TestListsOfOneAnswerShareNothing(t *testing.T) { // P0.3
	l, p := crowd(t)
	p = mustAdd(t, l, p, p.sized(t, 7, 200), p.sized(t, 8, 200))
	want := p.since(nil, 1000)
	for i := range want {
		got := l.Since(nil, 1000)
		spoilBytes(got[i].Data)
		if !slices.Equal(got[i].Seen, l.Since(nil, 1000)[i].Seen) {
			t.Error("Data and Seen share memory")
		}
		spoilNumbers(got[i].Seen)
		wantSame(t, "ahead of it", got[:i], want[:i])
		wantSame(t, "behind it", got[i+1:], want[i+1:])
	}
}

func TestLogsKnowNothingOfEachOther(t *testing.T) { // P0.5
	_, a, p := made(t, 60)
	d, b, q := made(t, 60)
	_, c, none := made(t, 60)
	for i, o := range some() {
		p = mustAdd(t, a, p, o)
		p = mustSet(t, a, p, fmt.Sprint("a", i))
		if i < 3 {
			q = mustAdd(t, b, q, dir(i, int64(20+i)))
			q = mustSet(t, b, q, fmt.Sprint("b", i))
		}
		wantLog(t, a, p)
		wantLog(t, b, q)
		wantLog(t, c, none)
	}
	d.Fuse(0)
	wantDead(t, b, q)
	p = mustAdd(t, a, p, dir(9, 9))
	wantLog(t, a, p)
	wantLog(t, opened(t, a.files, p.room), p)
}

// wantNothing sees that the log answers nothing.
func wantNothing(t *testing.T, l *Log) {
	t.Helper()
	for node := -1; node < 66; node++ {
		if o, ok := l.Get(node, 1); ok || fmt.Sprint(o) != fmt.Sprint(api.Op{}) {
			t.Errorf("Get(%d, 1) = %v, %v", node, o, ok)
		}
	}
	for _, most := range []int{math.MinInt, 0, 1, math.MaxInt} {
		if os := l.Since(nil, most); len(os) != 0 {
			t.Errorf("Since = %v", os)
		}
	}
	if v := l.Vector(); len(v) != 0 || l.Cost() != 0 || len(l.Meta()) != 0 {
		t.Errorf("Vector %v, Cost %d, Meta %v", v, l.Cost(), l.Meta())
	}
	for _, b := range [][]byte{nil, {1}, make([]byte, 256)} {
		if e := l.SetMeta(b); e != api.EIO {
			t.Errorf("SetMeta = %d", e)
		}
	}
	if e := l.Sync(); e != api.EIO {
		t.Errorf("Sync = %d", e)
	}
}

func TestANilLog(t *testing.T) { // P13.4
	var l *Log
	for range 2 {
		for _, os := range [][]api.Op{nil, {}, {dir(0, 1)}, some(), {{}}} {
			if n, e := l.Add(os...); n != 0 || e != api.EIO || l.Fits(os...) {
				t.Errorf("Add of %d = %d, %d; Fits %v", len(os), n, e, l.Fits(os...))
			}
		}
		if e := l.SetMeta(make([]byte, 257)); e != api.EIO {
			t.Errorf("SetMeta of 257 bytes = %d", e)
		}
		wantNothing(t, l)
	}
}

func TestAZeroLog(t *testing.T) { // P0.1
	l := &Log{}
	wantNothing(t, l)
	if n, e := l.Add(dir(0, 1)); n != 0 || e != api.ENOSPC {
		t.Errorf("Add = %d, %d", n, e)
	}
	wantNothing(t, l)
}
