package wal

import (
	"bytes"
	"testing"

	"lagoon/api"
	"lagoon/device"
)

// history is what the volume was behind each prefix of the commits: states[k] behind k of them. kept of them must not be lost any more.
type history struct {
	states [][]byte
	kept   int
}

func (h *history) now() []byte { return h.states[len(h.states)-1] }

func newHistory(v *Volume) *history {
	return &history{states: [][]byte{make([]byte, v.Blocks()*api.Block)}}
}

// since is the history of a volume that a Mount has told: what is behind that prefix is gone.
func (h *history) since(commits int64) *history {
	return &history{states: h.states[: commits+1 : commits+1], kept: int(commits)}
}

// step is a commit, or a Sync if it has no puts.
type step []api.Put

func someSteps(seed, count, blocks int) []step {
	n := noise(seed)
	steps := make([]step, count)
	for i := range steps {
		if n.below(4) != 0 {
			steps[i] = somePuts(&n, blocks)
		}
	}
	return steps
}

// play does the steps until the device dies, and takes down what was told.
func (h *history) play(t *testing.T, v *Volume, steps []step) {
	t.Helper()
	for _, s := range steps {
		if len(s) == 0 {
			if v.Sync() != api.OK {
				return
			}
			h.kept = len(h.states) - 1
			continue
		}
		e := v.Commit(s...)
		h.states = append(h.states, plainPut(h.now(), s))
		if e != api.OK {
			return
		}
		if v.Commits() != int64(len(h.states)-1) {
			t.Fatalf("%d commits, want %d", v.Commits(), len(h.states)-1)
		}
	}
}

// found mounts what a crash has left, and holds it against the history.
func (h *history) found(t *testing.T, name string, d *device.Device) *Volume {
	t.Helper()
	v, e := Mount(d)
	if e != api.OK {
		t.Fatalf("%s: Mount = %d", name, e)
	}
	k := v.Commits()
	if k < int64(h.kept) || k >= int64(len(h.states)) {
		t.Fatalf("%s: %d commits, want %d to %d", name, k, h.kept, len(h.states)-1)
	}
	if !bytes.Equal(stateOf(t, v), h.states[k]) {
		t.Fatalf("%s: not the volume behind %d commits", name, k)
	}
	return v
}

// opsOf is how many Writes and Flushes the steps take on a new volume.
func opsOf(t *testing.T, blocks int, steps []step) int {
	t.Helper()
	d, v := made(t, blocks)
	before := d.Count()
	newHistory(v).play(t, v, steps)
	return d.Count() - before
}

func TestCrashAtEachWriteAndFlush(t *testing.T) { // P6.3
	for seed := range 4 {
		blocks := 16 + 3*seed
		steps := someSteps(seed, 24, (blocks-8)/4)
		for fuse := range opsOf(t, blocks, steps) + 1 {
			d, v := made(t, blocks)
			d.Fuse(fuse)
			h := newHistory(v)
			h.play(t, v, steps)
			for name, keep := range keeps() {
				h.found(t, name, d.Crash(keep))
			}
		}
	}
}

// eachSubset asks for every way to keep some of the loose blocks.
func eachSubset(d *device.Device, ask func(*device.Device)) {
	loose := d.Loose()
	for set := range 1 << len(loose) {
		k := -1
		ask(d.Crash(func(int) bool { k++; return set>>k&1 == 1 }))
	}
}

func TestEachWayToLoseBlocks(t *testing.T) { // P6.3: the later one kept and the earlier one lost among them
	steps := []step{{put(0, 1)}, {put(1, 2), put(0, 3)}, nil, {put(0, 4)}, {put(0, 5)}, {put(1, 6)}, {put(0, 7)}, {put(1, 8)}, nil, {put(0, 9), put(1, 10)}, {put(0, 11)}}
	for fuse := range opsOf(t, 16, steps) + 1 {
		d, v := made(t, 16)
		d.Fuse(fuse)
		h := newHistory(v)
		h.play(t, v, steps)
		if n := len(d.Loose()); n > 12 {
			t.Fatalf("%d loose blocks", n)
		}
		eachSubset(d, func(found *device.Device) { h.found(t, "a subset", found) })
	}
}

func TestOldRecordsDoNotLookNew(t *testing.T) { // P6.3: a place of the log that is used again
	for _, first := range []byte{1, 9} { // the same commit once more, or another one
		d, v := made(t, 16)
		mustCommit(t, v, put(1, 3))
		mustSync(t, v)
		synced := len(d.Loose())
		at := v.next
		mustCommit(t, v, put(0, 1))
		behind := v.next
		mustCommit(t, v, put(0, 2))
		if synced != 0 {
			t.Fatal("a Sync left loose blocks")
		}
		d = d.Crash(func(i int) bool { return i >= behind }) // the later record alone
		v = mounted(t, d)
		wantVolume(t, v, 1, 0, 3)
		mustCommit(t, v, put(0, first))
		mustSync(t, v)
		wantVolume(t, mounted(t, d.Crash(nil)), 2, first, 3)
		for v.next < at {
			mustCommit(t, v, put(1, 4))
		}
		wantVolume(t, mounted(t, d.Crash(nil)), 2, first, 3)
		w := mounted(t, d.Crash(all))
		if w.Commits() != v.Commits() || !bytes.Equal(stateOf(t, w), stateOf(t, v)) {
			t.Errorf("%d commits, want %d", w.Commits(), v.Commits())
		}
	}
}

func TestMountTwice(t *testing.T) { // P6.1, P6.3
	steps := someSteps(7, 20, 3)
	for fuse := range opsOf(t, 20, steps) + 1 {
		for name, keep := range keeps() {
			d, v := made(t, 20)
			d.Fuse(fuse)
			h := newHistory(v)
			h.play(t, v, steps)
			d = d.Crash(keep)
			told := h.found(t, name, d)
			for range 2 {
				again := mounted(t, d)
				if again.Commits() != told.Commits() || !bytes.Equal(stateOf(t, again), stateOf(t, told)) {
					t.Fatalf("%s, fuse %d: a second Mount tells something else", name, fuse)
				}
				d = d.Crash(nil)
			}
		}
	}
}

func TestMountKeepsWhatItTells(t *testing.T) { // P6.3: commits that were not synced, of a device that was not crashed
	d, v := made(t, 16)
	mustCommit(t, v, put(0, 1))
	mustCommit(t, v, put(1, 2))
	wantVolume(t, mounted(t, d.Crash(nil)), 0, 0, 0)
	wantVolume(t, mounted(t, d), 2, 1, 2)
	wantVolume(t, mounted(t, d.Crash(nil)), 2, 1, 2)
	mustCommit(t, v, put(0, 3))
	d.Fuse(0)
	if v, e := Mount(d); v != nil || e != api.EIO {
		t.Errorf("Mount of a dead device: %v, %d", v, e)
	}
	wantVolume(t, mounted(t, d.Crash(nil)), 2, 1, 2)
	wantVolume(t, mounted(t, d.Crash(all)), 3, 3, 2)
}

func TestDeathInMount(t *testing.T) { // P6.1, P6.3
	steps := someSteps(3, 16, 2)
	for fuse := range opsOf(t, 16, steps) + 1 {
		for name, keep := range keeps() {
			d, v := made(t, 16)
			d.Fuse(fuse)
			h := newHistory(v)
			h.play(t, v, steps)
			d = d.Crash(keep)
			h = h.since(h.found(t, name, d).Commits())
			for left := range 100 {
				d.Fuse(left)
				v, e := Mount(d)
				again := d.Crash(keeps()["noise1"])
				h.found(t, name, again)
				if e == api.OK {
					break
				}
				if v != nil || e != api.EIO || left == 99 {
					t.Fatalf("%s: fuse %d: Mount = %v, %d", name, left, v, e)
				}
				d = again
			}
		}
	}
}

func TestSecondLives(t *testing.T) { // P6.3: a life behind a crash, its crash, and one more
	first, second := someSteps(11, 14, 2), someSteps(12, 14, 2)
	third := second[:5]
	ops := opsOf(t, 16, second)
	for fuse := range opsOf(t, 16, first) + 1 {
		for name, keep := range keeps() {
			d, v := made(t, 16)
			d.Fuse(fuse)
			h := newHistory(v)
			h.play(t, v, first)
			found := d.Crash(keep)
			told := h.found(t, name, found).Commits()
			for again := fuse % 11; again < ops+8; again += 11 {
				d, h := found.Crash(nil), h.since(told)
				v := h.found(t, name, d)
				d.Fuse(again)
				h.play(t, v, second)
				for _, other := range []string{name, "late", "noise2"} {
					d := d.Crash(keeps()[other])
					h := h.since(h.found(t, name+", "+other, d).Commits())
					h.play(t, mounted(t, d), third)
					h.found(t, name+", "+other+", at the end", d.Crash(keep))
				}
			}
		}
	}
}

func TestTwoVolumesOfOneDevice(t *testing.T) { // P6.3: nothing that was synced, or that a Mount has told, is lost by going on with an older volume
	d, v := made(t, 16)
	w := mounted(t, d)
	h := newHistory(v)
	for k, s := range someSteps(5, 60, 2) {
		if len(s) == 0 {
			continue
		}
		one := []*Volume{v, w, v, mounted(t, d)}[k%4]
		mustCommit(t, one, s...)
		h.states = append(h.states, plainPut(h.now(), s))
		if k%5 == 0 {
			mustSync(t, []*Volume{v, w}[k/5%2])
			h.kept = len(h.states) - 1
		}
		for _, x := range []*Volume{v, w} {
			if x.Commits() != int64(len(h.states)-1) || !bytes.Equal(stateOf(t, x), h.now()) {
				t.Fatalf("step %d: %d commits, want %d, or other blocks", k, x.Commits(), len(h.states)-1)
			}
		}
		for name, keep := range keeps() {
			h.found(t, name, d.Crash(keep))
		}
	}
	mustCommit(t, v, put(0, 1))
	mustSync(t, w) // and it goes on as if it had not
	mustCommit(t, w, put(1, 2))
	wantVolume(t, mounted(t, d), int64(len(h.states)+1), 1, 2)
	if Format(d) != api.OK {
		t.Fatal("Format")
	}
	wantVolume(t, v, 0, 0, 0)
	mustCommit(t, w, put(1, 5))
	mustSync(t, v)
	wantVolume(t, mounted(t, d.Crash(nil)), 1, 0, 5)
}
