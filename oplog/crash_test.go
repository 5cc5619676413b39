package oplog

import (
	"fmt"
	"testing"

	"lagoon/api"
	"lagoon/device"
)

// history is what the log was behind each prefix of the Adds and SetMetas. kept of them must not be lost any more.
type history struct {
	states []plain
	kept   int
}

func (h *history) now() plain { return h.states[len(h.states)-1] }

// someOp gives an operation that the log takes, often; its stamps meet those of other nodes.
func someOp(r *noise, p plain, size int) api.Op {
	node := []int{0, 1, 7, 63}[r.below(4)]
	seen := make(api.Vector, 64)
	for other := range seen {
		if n := p.count(other); n > 0 && r.below(2) == 0 {
			seen[other] = n - int64(r.below(int(n)))
		}
	}
	seen[node] = p.count(node)
	time := int64(1 + r.below(3))
	for _, o := range p.ops {
		if o.Seq <= at(seen, o.Stamp.Node) {
			time = max(time, o.Stamp.Time+1)
		}
	}
	time -= int64(r.below(12) / 11) // now and then too early
	o := dir(node, time, seen...)
	if r.below(3) > 0 && time > 2 {
		o = write(node, time, r.bytes(r.below(size)), seen...)
	}
	if r.below(15) == 0 {
		o.Seq += int64(r.below(3) - 1)
	}
	return o
}

// someOps are 1 to 5 operations, each as if those ahead of it were taken.
func someOps(r *noise, p plain, size int) []api.Op {
	var os []api.Op
	for range 1 + r.below(5) {
		o := someOp(r, p, size)
		os = append(os, o)
		p, _, _ = p.after(o)
	}
	return os
}

// play makes calls until one tells EIO; some of them are Sync.
func (h *history) play(t *testing.T, r *noise, l *Log, calls, size int) {
	t.Helper()
	for range calls {
		switch p := h.now(); r.below(8) {
		case 0:
			if l.Sync() != api.OK {
				return
			}
			h.kept = len(h.states) - 1
		case 1, 2:
			p.meta = string(r.bytes(r.below(257)))
			h.states = append(h.states, p)
			if l.SetMeta([]byte(p.meta)) != api.OK {
				return
			}
		default:
			os := someOps(r, p, size)
			next, want, why := p.after(os...)
			n, e := l.Add(os...)
			if want > 0 {
				h.states = append(h.states, next)
			}
			if n == 0 && e == api.EIO {
				return
			}
			if n != want || e != why {
				t.Fatalf("Add = %d, %d; want %d, %d", n, e, want, why)
			}
		}
	}
}

// which tells behind how many of the calls the log is; -1, if it is none that it may be.
func (h *history) which(l *Log) int {
	for i := len(h.states) - 1; i >= h.kept; i-- {
		if isLike(l, h.states[i]) {
			return i
		}
	}
	return -1
}

// found opens what a crash has left, and holds it against the history.
func (h *history) found(t *testing.T, d *device.Device) (*Log, *history) {
	t.Helper()
	l := opened(t, mounted(t, d), h.now().room)
	i := h.which(l)
	if i < 0 {
		t.Fatalf("%d operations, Meta %q: no prefix of %d calls, of which %d are kept", len(l.Since(nil, 1<<30)), l.Meta(), len(h.states)-1, h.kept)
	}
	wantLog(t, l, h.states[i])
	wantLog(t, opened(t, mounted(t, d.Crash(nil)), h.now().room), h.states[i])
	return l, &history{states: h.states[i : i+1 : i+1]}
}

func TestCrashAtEachWrite(t *testing.T) { // P13.4
	for seed := range 4 {
		capacity := []int{40, 60, 100, 200}[seed]
		calls := 14
		for fuse := 0; ; fuse++ {
			d, l, p := made(t, capacity)
			d.Fuse(fuse)
			r := noise(seed)
			h := &history{states: []plain{p}}
			h.play(t, &r, l, calls, 900)
			if !d.Dead() {
				if len(h.states) < calls/2 {
					t.Errorf("%d states: the test itself is wrong", len(h.states))
				}
				break
			}
			for name, keep := range keeps(d) {
				if h.found(t, d.Crash(keep)); t.Failed() {
					t.Fatalf("seed %d, fuse %d, %s", seed, fuse, name)
				}
			}
		}
	}
}

func TestCrashesOneBehindTheOther(t *testing.T) { // P13.4: what a crash has left of an Add, the next life overwrites
	for seed := range 40 {
		r := noise(seed)
		d, l, p := made(t, 40+r.below(160))
		h := &history{states: []plain{p}}
		for range 10 {
			if r.below(4) > 0 {
				d.Fuse(r.below(90))
			}
			h.play(t, &r, l, 1+r.below(12), 700)
			keep := func(int) bool { return r.below(2) == 0 }
			if r.below(3) == 0 {
				keep = nil
			}
			d = d.Crash(keep)
			if l, h = h.found(t, d); t.Failed() {
				t.Fatalf("seed %d", seed)
			}
		}
	}
}

func TestACrashOfALivingDevice(t *testing.T) { // P13.4
	r := noise(9)
	d, l, p := made(t, 100)
	h := &history{states: []plain{p}}
	for range 25 {
		h.play(t, &r, l, 2, 300)
		for name, keep := range keeps(d) {
			if h.found(t, d.Crash(keep)); t.Failed() {
				t.Fatal(name)
			}
		}
		// The old device and its log go on.
		wantLog(t, l, h.now())
	}
}

func TestCrashInAnAddOfManyFiles(t *testing.T) { // P13.4: each Add is whole, however great it is
	const capacity = 3000
	d, l, p := made(t, capacity)
	p = mustAdd(t, l, p, p.sized(t, 0, 65000))
	p = mustSet(t, l, p, "meta")
	l.Sync()
	var os []api.Op
	next := p
	for _, cost := range []int{40000, 65500, 300, 65536, 20000} {
		o := next.sized(t, 1+len(os)%2, cost)
		os = append(os, o)
		next = next.with(t, o)
	}
	whole := d.Crash(nil)
	k := opened(t, mounted(t, whole), p.room)
	count := whole.Count()
	mustAdd(t, k, p, os...)
	writes := whole.Count() - count
	entries, _ := k.files.List(nil)
	if len(entries) < 5 {
		t.Fatalf("%d files: the test itself is wrong", len(entries))
	}
	for fuse := 0; fuse < writes; fuse++ {
		if fuse > 3 && fuse < writes-6 && fuse%23 != 0 {
			continue
		}
		d := d.Crash(nil)
		l := opened(t, mounted(t, d), p.room)
		d.Fuse(fuse)
		if n, e := l.Add(os...); n != 0 || e != api.EIO {
			t.Fatalf("fuse %d: Add = %d, %d", fuse, n, e)
		}
		for _, name := range []string{"nil", "all", "odd", "noise1"} {
			found := d.Crash(keeps(d)[name])
			h := &history{states: []plain{p, next}}
			g, h := h.found(t, found)
			// Shorter ones overwrite what it left, and reach just into the next file.
			q := h.now()
			if len(q.ops) == 1 {
				q = mustAdd(t, g, q, q.sized(t, 3, 600))
				q = mustAdd(t, g, q, q.sized(t, 3, 400))
				wantLog(t, opened(t, mounted(t, found), q.room), q)
			}
		}
		if t.Failed() {
			t.Fatalf("fuse %d", fuse)
		}
	}
}

func TestAnAddThatEndsWithAFile(t *testing.T) { // P13.4: the bytes behind it, which a crash has left, are not the log's
	for _, end := range []int{-1, 0, 1} {
		d, l, p := made(t, 2000)
		// The bytes of an operation and of its frame are 8 fewer than its cost.
		p = mustAdd(t, l, p, p.sized(t, 0, 60000+8))
		l.Sync()
		long := []api.Op{p.sized(t, 1, 50000), p.sized(t, 2, 60000)}
		lost := d.Crash(nil)
		k := opened(t, mounted(t, lost), p.room)
		lost.Fuse(250)
		if n, e := k.Add(long...); n != 0 || e != api.EIO {
			t.Fatalf("Add = %d, %d", n, e)
		}
		d = lost.Crash(all)
		l = opened(t, mounted(t, d), p.room)
		wantLog(t, l, p)
		p = mustAdd(t, l, p, p.sized(t, 3, 5536+8+end))
		if l.size != 65536+end {
			t.Fatalf("%d bytes: the test itself is wrong", l.size)
		}
		for range 3 {
			wantLog(t, opened(t, mounted(t, d.Crash(all)), p.room), p)
			p = mustAdd(t, l, p, p.sized(t, 3, 60))
		}
		wantLog(t, l, p)
	}
}

func TestPrefixesOfManySmallAdds(t *testing.T) { // P13.4
	d, l, p := made(t, 200)
	h := &history{states: []plain{p}}
	for i := range 150 {
		p = mustAdd(t, l, p, p.sized(t, i%5, 50))
		h.states = append(h.states, p)
		if i%40 == 17 {
			l.Sync()
			h.kept = len(h.states) - 1
		}
		r := noise(i)
		if h.found(t, d.Crash(func(int) bool { return r.below(3) > 0 })); t.Failed() {
			t.Fatal(fmt.Sprint("behind ", i))
		}
	}
}
