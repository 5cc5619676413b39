package localfs

import (
	"fmt"
	"testing"

	"lagoon/device"
)

// somePath gives a path of few names, such that many of them meet; seldom a wrong one.
func somePath(r *noise) []string {
	if r.below(60) == 0 {
		wrong := [][]string{make([]string, 65), {"a", ""}, {"."}, {"b", "..", "a"}, {"x\x00"}, {"a", longName(65)}}
		return wrong[r.below(len(wrong))]
	}
	var p []string
	for r.below(8) > 0 && len(p) < 6 {
		p = append(p, fmt.Sprintf("%c", 'a'+r.below(4)))
		if r.below(20) == 0 {
			p[len(p)-1] = longName(64)
		}
		if r.below(3) == 0 {
			break
		}
	}
	return p
}

func longName(size int) string {
	b := make([]byte, size)
	for i := range b {
		b[i] = 'a' + byte(i%26)
	}
	return string(b)
}

// someSize gives all sizes, often small ones, edges too; seldom one that is out of range.
func someSize(r *noise) int {
	switch r.below(12) {
	case 0:
		return r.below(65536)
	case 1:
		return []int{-1, 65535, 65536, 65537, 1 << 62, -1 << 63}[r.below(6)]
	case 2, 3:
		return r.below(9) * 512
	}
	return r.below(1500)
}

func someCall(r *noise) call {
	names := []string{"Mkdir", "Mkdir", "Mkdir", "Create", "Create", "Write", "Write", "Write", "Truncate", "Replace", "Replace", "Read", "Remove", "Rename", "Rename", "List", "Stat"}
	c := call{fn: names[r.below(len(names))], p: somePath(r), q: somePath(r), at: someSize(r), count: someSize(r)}
	if c.fn == "Write" || c.fn == "Replace" {
		c.b = r.bytes(max(0, min(someSize(r), 65537)))
		if r.below(6) == 0 {
			clear(c.b)
		}
	}
	return c
}

// step makes one call of the file system and of the plain state.
func step(t *testing.T, r *noise, f *FS, s state) state {
	t.Helper()
	c := someCall(r)
	next, want := s.after(c, f.capacity)
	if got := c.on(f); got != want {
		t.Fatalf("%v = %d, %.60q, want %d, %.60q", c, got.e, got.text, want.e, want.text)
	}
	if f.Cost() != next.cost() {
		t.Fatalf("%v: Cost = %d, want %d", c, f.Cost(), next.cost())
	}
	return next
}

func TestRandomCallsAgainstAPlainState(t *testing.T) { // P11.1, P11.2, P11.3
	for seed := range 60 {
		r := noise(seed)
		capacity := []int{4, 5, 8, 20, 60, 200, 600}[seed%7]
		d, f := made(t, blocksOf(capacity)+r.below(16))
		s := empty()
		for range 400 {
			s = step(t, &r, f, s)
			switch r.below(30) {
			case 0:
				wantState(t, f, s)
				wantWhole(t, f)
			case 1:
				f = mounted(t, d)
				wantState(t, f, s)
			case 2:
				if e := f.Sync(); e != 0 {
					t.Fatalf("Sync = %d", e)
				}
				d = d.Crash(nil)
				f = mounted(t, d)
				wantState(t, f, s)
			}
			if t.Failed() {
				t.Fatalf("seed %d", seed)
			}
		}
	}
}

// wantWhole holds what the file system keeps in memory against what a Mount finds: no block is lost, and none is used twice.
func wantWhole(t *testing.T, f *FS) {
	t.Helper()
	g, e := found(f.volume, f.capacity)
	if e != 0 {
		t.Fatalf("what is there is no file system: %d", e)
	}
	if string(g.free.Bytes()) != string(f.free.Bytes()) {
		t.Errorf("%d blocks are free, want %d", f.free.Free(), g.free.Free())
	}
	if g.cost != f.cost || g.commits != f.commits {
		t.Errorf("cost %d, commits %d; want %d, %d", f.cost, f.commits, g.cost, g.commits)
	}
	if used := f.free.Size() - f.free.Free(); used > 1+f.cost+f.cost/10 {
		t.Errorf("%d blocks are used for a cost of %d", used, f.cost)
	}
	for head, o := range f.known {
		if g.known[head] == nil || string(g.known[head].image()) != string(o.image()) {
			t.Errorf("block %d is the head of something else", head)
		}
	}
}

func TestTwoFileSystemsKnowNothingOfEachOther(t *testing.T) { // P0.5
	r, q := noise(1), noise(2)
	_, f := made(t, blocksOf(50))
	_, g := made(t, blocksOf(50))
	s, u := empty(), empty()
	for range 300 {
		s = step(t, &r, f, s)
		u = step(t, &q, g, u)
	}
	wantState(t, f, s)
	wantState(t, g, u)
}

func TestSeveralFileSystemsOnOneDevice(t *testing.T) { // P0.5: the device was handed to all of them
	r := noise(3)
	d, f := made(t, blocksOf(60))
	all := []*FS{f, mounted(t, d), mounted(t, d)}
	s := empty()
	for i := range 300 {
		s = step(t, &r, all[r.below(3)], s)
		if i%20 == 0 {
			for _, g := range all {
				wantState(t, g, s)
			}
			wantState(t, mounted(t, d), s)
		}
	}
}

func TestADeviceOverwrittenBelowAFileSystem(t *testing.T) { // P0.1
	for seed := range 40 {
		r := noise(seed)
		d, f := made(t, blocksOf(30))
		s := empty()
		for range 40 {
			s = step(t, &r, f, s)
		}
		overwrite(&r, d)
		for range 60 {
			someCall(&r).on(f)
			f.Cost()
		}
	}
}

func overwrite(r *noise, d *device.Device) {
	for range 1 + r.below(40) {
		d.Write(r.below(d.Blocks()), r.bytes(512))
	}
}
