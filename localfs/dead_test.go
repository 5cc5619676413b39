package localfs

import (
	"strings"
	"testing"

	"lagoon/api"
	"lagoon/device"
)

// setUp makes a file system with some of everything on a device of its own.
func setUp(t *testing.T) (*device.Device, *FS, state) {
	t.Helper()
	d, f := made(t, blocksOf(40))
	s := must(t, f, empty(), mkdir("d"), mkdir("e"), replace("d/f", strings.Repeat("x", 1000)), create("g"), mkdir("d/h"), create("e/1"), create("e/2"), create("e/3"), create("e/4"))
	return d, f, s
}

func changing() []call {
	return []call{
		mkdir("x"), create("d/h/x"), write("d/f", 100, "y"), write("d/f", 5000, "y"), write("g", 0, "\x00"), truncate("d/f", 10), truncate("d/f", 4000), truncate("g", 1),
		replace("d/f", "y"), replace("d/f", ""), replace("new", strings.Repeat("y", 2000)), replace("new", ""), remove("d/f"), remove("d/h"), remove("g"), rename("d", "x"), rename("g", "d/f"), rename("d/h", "e/h"), rename("e/1", "e/2"),
	}
}

func changingNothing() []call {
	return []call{
		write("d/f", 0, ""), write("d/f", 9999, ""), write("d/f", 10, "xxx"), truncate("d/f", 1000), truncate("g", 0), replace("d/f", strings.Repeat("x", 1000)), replace("g", ""), rename("d", "d"), rename("g", "g"),
		readAt("d/f", 990, 99), readAt("g", 0, 1), list(""), list("e"), stat("d/f"), stat(""),
	}
}

func refused() []call {
	return []call{
		mkdir("d"), mkdir(""), create("g/x"), create("no/x"), create("."), write("d", 0, "x"), write("no", 0, "x"), write("g", -1, "x"), write("g", 65536, "x"), truncate("g", -1), truncate("d", 0), truncate("g", 65537), replace("e", "x"), replace("g", strings.Repeat("x", 65537)),
		remove(""), remove("d"), remove("no"), rename("", "x"), rename("no", "x"), rename("d", "d/x"), rename("g", "e"), rename("e", "g"), rename("d/h", "e"), list("g"), stat("no"), readAt("d", 0, 1),
		// Also ENOSPC comes ahead of EIO.
		truncate("g", 65536), write("g", 40000, "x"), replace("x", strings.Repeat("x", 30000)),
	}
}

// wantDead holds a file system on a dead device against the state that it must stay in.
func wantDead(t *testing.T, f *FS, s state) {
	t.Helper()
	for _, c := range changing() {
		if got := c.on(f); got.e != api.EIO {
			t.Errorf("%v on a dead device = %d", c, got.e)
		}
	}
	if e := f.Sync(); e != api.EIO {
		t.Errorf("Sync of a dead device = %d", e)
	}
	for _, c := range append(changingNothing(), refused()...) {
		_, want := s.after(c, f.capacity)
		if got := c.on(f); got != want {
			t.Errorf("%v on a dead device = %d, want %d", c, got.e, want.e)
		}
	}
	wantState(t, f, s)
}

func TestADeadDevice(t *testing.T) { // P11.3
	d, f, s := setUp(t)
	d.Fuse(0)
	wantDead(t, f, s)
	wantDead(t, f, s)
	wantState(t, mounted(t, d.Crash(func(int) bool { return true })), s)
}

func TestCallsThatChangeNothingWriteNothing(t *testing.T) { // P11.3
	d, f, s := setUp(t)
	count := d.Count()
	for _, c := range append(changingNothing(), refused()...) {
		next, want := s.after(c, f.capacity)
		if got := c.on(f); got != want {
			t.Errorf("%v = %d, want %d", c, got.e, want.e)
		}
		wantState(t, f, next)
	}
	if d.Count() != count {
		t.Errorf("%d writes", d.Count()-count)
	}
}

func TestADeviceThatDiesInACall(t *testing.T) { // P11.3, P11.4
	for _, c := range changing() {
		d, f, s := setUp(t)
		next, want := s.after(c, f.capacity)
		count := d.Count()
		if got := c.on(f); got != want || want.e != api.OK {
			t.Fatalf("%v = %d, want %d", c, got.e, want.e)
		}
		writes := d.Count() - count
		for fuse := range writes {
			d, f, s := setUp(t)
			f.Sync()
			d.Fuse(fuse)
			if got := c.on(f); got.e != api.EIO {
				t.Errorf("%v, fuse %d = %d", c, fuse, got.e)
			}
			wantState(t, f, s)
			wantDead(t, f, s)
			for _, keep := range keeps() {
				g := mounted(t, d.Crash(keep))
				if g.commits == f.commits {
					wantState(t, g, s)
				} else {
					wantState(t, g, next)
				}
			}
			if t.Failed() {
				t.Fatalf("%v, fuse %d", c, fuse)
			}
		}
		d, f, _ = setUp(t)
		d.Fuse(writes)
		if got := c.on(f); got.e != api.OK {
			t.Errorf("%v on a device that lasts just so long = %d", c, got.e)
		}
		wantState(t, f, next)
		if f.Sync() != api.EIO || f.Mkdir(to("more")) != api.EIO {
			t.Error("the device is dead")
		}
	}
}

func TestSyncThatDies(t *testing.T) { // P11.3, P11.4
	d, f, s := setUp(t)
	if e := f.Sync(); e != api.OK || len(d.Loose()) != 0 {
		t.Errorf("Sync = %d, loose %v", e, d.Loose())
	}
	wantState(t, mounted(t, d.Crash(nil)), s)
	must(t, f, s, create("x"))
	d.Fuse(0)
	if e := f.Sync(); e != api.EIO {
		t.Errorf("Sync = %d", e)
	}
	g := mounted(t, d.Crash(nil))
	wantState(t, g, s)
}
