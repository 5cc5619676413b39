package oplog

import (
	"bytes"
	"math"
	"slices"
	"testing"

	"lagoon/api"
	"lagoon/ops"
)

// crowd is a log of many operations, of which each node's stamps come in between those of the others, some at the same time.
func crowd(t *testing.T) (*Log, plain) {
	t.Helper()
	_, l, p := made(t, 200)
	r := noise(3)
	for range 120 {
		node := []int{0, 1, 2, 40, 63}[r.below(5)]
		seen := make(api.Vector, node+1)
		seen[node] = p.count(node)
		p = mustAdd(t, l, p, dir(node, 3+2*seen[node]+int64(r.below(2)), seen...))
	}
	return l, p
}

func TestSince(t *testing.T) { // P13.3
	l, p := crowd(t)
	vectors := []api.Vector{nil, {}, {0}, l.Vector(), {1}, {0, 1}, {3, 5, 2}, {1000}, {1000, 1000, 1000}, append(make(api.Vector, 63), 2), append(make(api.Vector, 40), 7, 0, 0),
		{-1, 2}, {math.MinInt64, math.MaxInt64}, {1 << 60}, {1<<60 + 1, 1 << 60}, append(make(api.Vector, 64), 5), append(l.Vector(), 1<<62, -1), slices.Repeat(api.Vector{2}, 100)}
	for node, n := range l.Vector() {
		one := l.Vector()
		one[node] = n - min(n, 1)
		two := l.Vector()
		two[node] = n + 1
		vectors = append(vectors, one, two)
	}
	for _, v := range vectors {
		total := len(p.since(v, math.MaxInt))
		for _, most := range []int{math.MinInt, -1, 0, 1, 2, 7, total - 1, total, total + 1, 1 << 40, math.MaxInt} {
			got, want := l.Since(v, most), p.since(v, most)
			if wantSame(t, "Since", got, want); t.Failed() {
				t.Fatalf("Since(%v, %d)", v, most)
			}
		}
	}
	wantLog(t, l, p)
}

func TestSinceGoesByTimeThenByNode(t *testing.T) { // P13.3
	_, l, p := made(t, 60)
	p = mustAdd(t, l, p, dir(5, 7), dir(2, 7), dir(63, 7), dir(0, 7), dir(1, 8), dir(62, 6))
	var nodes []int
	for _, o := range l.Since(nil, 99) {
		nodes = append(nodes, o.Stamp.Node)
	}
	if !slices.Equal(nodes, []int{62, 0, 2, 5, 63, 1}) {
		t.Errorf("nodes %v", nodes)
	}
	wantLog(t, l, p)
}

func TestSinceOfAnEmptyLog(t *testing.T) { // P13.3
	_, l, _ := made(t, 60)
	for _, v := range []api.Vector{nil, {1}, {-1}} {
		for _, most := range []int{-1, 0, 1, math.MaxInt} {
			if os := l.Since(v, most); len(os) != 0 {
				t.Errorf("Since(%v, %d) = %v", v, most, os)
			}
		}
	}
}

func TestWhatSinceGivesAnotherLogTakes(t *testing.T) { // P13.3, P13.2: an operation stands behind all that it has seen
	l, p := crowd(t)
	os := l.Since(nil, 1000)
	_, k, q := made(t, 200)
	for chunk := range slices.Chunk(os, 8) {
		q = mustAdd(t, k, q, chunk...)
		wantSame(t, "Since of the other one's vector", l.Since(k.Vector(), 1000), p.since(k.Vector(), 1000))
	}
	if len(l.Since(k.Vector(), 1000)) != 0 || !slices.EqualFunc(k.Since(nil, 1000), os, ops.Eq) {
		t.Error("the two logs are not the same")
	}
}

func TestMeta(t *testing.T) { // P13.3
	d, l, p := made(t, 60)
	wantLog(t, l, p)
	r := noise(2)
	for _, b := range [][]byte{nil, []byte("a"), {}, {0}, {0, 0}, r.bytes(255), r.bytes(256), r.bytes(256), r.bytes(7), nil, nil, r.bytes(256), []byte("at the end"), []byte("at the end")} {
		if e := l.SetMeta(b); e != api.OK {
			t.Fatalf("SetMeta of %d bytes = %d", len(b), e)
		}
		p.meta = string(b)
		wantLog(t, l, p)
		wantLog(t, opened(t, l.files, p.room), p)
		wantLog(t, opened(t, mounted(t, d.Crash(all)), p.room), p)
		for _, size := range []int{257, 258, 512, 65536, 1 << 20} {
			if e := l.SetMeta(make([]byte, size)); e != api.EINVAL {
				t.Errorf("SetMeta of %d bytes = %d", size, e)
			}
		}
		wantLog(t, l, p)
		if len(b) == 255 {
			p = mustAdd(t, l, p, some()...)
		}
	}
}

func TestMetaAndOperationsStayApart(t *testing.T) { // P13.3
	_, l, p := made(t, 60)
	for i, o := range some() {
		p = mustSet(t, l, p, string(bytes.Repeat([]byte{byte(i)}, 40*i)))
		p = mustAdd(t, l, p, o)
		wantLog(t, l, p)
		wantLog(t, opened(t, l.files, p.room), p)
	}
}

func TestAFileSystemThatIsDead(t *testing.T) { // P13.3
	for _, meta := range []string{"", "meta"} {
		for _, first := range []int{0, 6} {
			d, l, p := made(t, 60)
			p = mustAdd(t, l, p, some()[:first]...)
			p = mustSet(t, l, p, meta)
			d.Fuse(0)
			wantDead(t, l, p)
			wantDead(t, opened(t, l.files, p.room), p)
			wantLog(t, opened(t, mounted(t, d.Crash(all)), p.room), p)
		}
	}
}

func TestASetMetaInWhichTheDeviceDies(t *testing.T) { // P13.3
	for _, meta := range []string{"new", "", string(make([]byte, 256))} {
		d, l, p := made(t, 60)
		p = mustAdd(t, l, p, some()...)
		p = mustSet(t, l, p, "old")
		l.Sync()
		whole := d.Crash(nil)
		k := opened(t, mounted(t, whole), p.room)
		count := whole.Count()
		next := mustSet(t, k, p, meta)
		for fuse := range whole.Count() - count {
			d := d.Crash(nil)
			l := opened(t, mounted(t, d), p.room)
			d.Fuse(fuse)
			if e := l.SetMeta([]byte(meta)); e != api.EIO {
				t.Errorf("fuse %d: SetMeta = %d", fuse, e)
			}
			wantDead(t, l, p)
			for name, keep := range keeps(d) {
				if g := opened(t, mounted(t, d.Crash(keep)), p.room); !isLike(g, p) && !isLike(g, next) {
					t.Errorf("fuse %d, %s: Meta = %q", fuse, name, g.Meta())
				}
			}
		}
	}
}

func TestSyncKeepsAll(t *testing.T) { // P13.3
	d, l, p := made(t, 60)
	for i, o := range some() {
		p = mustAdd(t, l, p, o)
		p = mustSet(t, l, p, string(make([]byte, i)))
		if e := l.Sync(); e != api.OK || len(d.Loose()) != 0 {
			t.Errorf("Sync = %d, loose %v", e, d.Loose())
		}
		wantLog(t, opened(t, mounted(t, d.Crash(nil)), p.room), p)
	}
	mustAdd(t, l, p, dir(9, 9))
	d.Fuse(0)
	if e := l.Sync(); e != api.EIO {
		t.Errorf("Sync = %d", e)
	}
	wantLog(t, opened(t, mounted(t, d.Crash(nil)), p.room), p)
}
