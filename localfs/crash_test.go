package localfs

import (
	"testing"

	"lagoon/api"
	"lagoon/device"
)

// history is what there was behind each prefix of the calls that changed something. kept of them must not be lost any more.
type history struct {
	states []state
	kept   int
}

func (h *history) now() state { return h.states[len(h.states)-1] }

// play makes calls until one tells EIO; some of them are Sync.
func (h *history) play(t *testing.T, r *noise, f *FS, calls int) {
	t.Helper()
	for range calls {
		if r.below(8) == 0 {
			if f.Sync() != api.OK {
				return
			}
			h.kept = len(h.states) - 1
			continue
		}
		c := someCall(r)
		next, want := h.now().after(c, f.capacity)
		before := f.commits
		got := c.on(f)
		if got.e == api.EIO {
			h.states = append(h.states, next)
			return
		}
		if got != want {
			t.Fatalf("%v = %d, want %d", c, got.e, want.e)
		}
		if f.commits > before {
			h.states = append(h.states, next)
		}
	}
}

// found mounts what a crash has left, and holds it against the history.
func (h *history) found(t *testing.T, d *device.Device) *FS {
	t.Helper()
	f := mounted(t, d)
	k := int(f.commits - 1) // the first commit is that of Mkfs
	if k < h.kept || k >= len(h.states) {
		t.Fatalf("%d calls are there, want %d to %d", k, h.kept, len(h.states)-1)
	}
	wantState(t, f, h.states[k])
	wantState(t, mounted(t, d), h.states[k])
	return f
}

// since is the history of a file system that a Mount has told.
func (h *history) since(f *FS) *history {
	k := int(f.commits - 1)
	return &history{states: h.states[: k+1 : k+1], kept: k}
}

func TestCrashAtEachWrite(t *testing.T) { // P11.4
	for seed := range 6 {
		capacity := []int{4, 9, 20, 30, 60, 300}[seed]
		for fuse := 0; ; fuse++ {
			d, f := made(t, blocksOf(capacity))
			d.Fuse(fuse)
			r := noise(seed)
			h := &history{states: []state{empty()}}
			h.play(t, &r, f, 60)
			if !d.Dead() {
				break
			}
			wantState(t, f, h.states[f.commits-1])
			if fuse > 60 && fuse%7 != 0 {
				continue
			}
			for name, keep := range keeps() {
				if h.found(t, d.Crash(keep)); t.Failed() {
					t.Fatalf("seed %d, fuse %d, %s", seed, fuse, name)
				}
			}
		}
	}
}

func TestCrashesOneBehindTheOther(t *testing.T) { // P11.4
	for seed := range 30 {
		r := noise(seed)
		d, f := made(t, blocksOf(4+r.below(60)))
		h := &history{states: []state{empty()}}
		for range 12 {
			if r.below(3) > 0 {
				d.Fuse(r.below(200))
			}
			h.play(t, &r, f, 40)
			keep := func(int) bool { return r.below(2) == 0 }
			if r.below(3) == 0 {
				keep = nil
			}
			d = d.Crash(keep)
			f = h.found(t, d)
			h = h.since(f)
			if t.Failed() {
				t.Fatalf("seed %d", seed)
			}
		}
	}
}

func TestACrashOfALivingDevice(t *testing.T) { // P11.4
	d, f := made(t, blocksOf(30))
	r := noise(5)
	h := &history{states: []state{empty()}}
	for range 40 {
		h.play(t, &r, f, 3)
		for name, keep := range keeps() {
			if h.found(t, d.Crash(keep)); t.Failed() {
				t.Fatal(name)
			}
		}
		// The old device and its file system go on.
		wantState(t, f, h.now())
	}
}
