package localfs

import (
	"fmt"
	"math"
	"slices"
	"strings"
	"testing"

	"lagoon/api"
	"lagoon/device"
	"lagoon/wal"
)

func TestCapacity(t *testing.T) { // P11.1
	for blocks, want := range map[int]int{
		math.MinInt: 0, math.MinInt + 7: 0, -1000: 0, -1: 0, 0: 0, 1: 0, 7: 0, 8: 0, 39: 0, 40: 0, 55: 0, 56: 1, 71: 1, 72: 2, 87: 2, 88: 3, 103: 3, 104: 4, 119: 4, 120: 5,
		600: 35, 65535: 4093, 65536: 4093, 65544: 4094, 1 << 40: 1<<36 - 3, math.MaxInt: (math.MaxInt-8)/16 - 2,
	} {
		if got := Capacity(blocks); got != want {
			t.Errorf("Capacity(%d) = %d, want %d", blocks, got, want)
		}
	}
}

func wantNoMount(t *testing.T, what string, d *device.Device, want api.Errno) {
	t.Helper()
	if f, e := Mount(d); f != nil || e != want {
		t.Errorf("%s: Mount = %d (a file system: %v), want %d and none", what, e, f != nil, want)
	}
}

func TestDevicesThatAreTooSmall(t *testing.T) { // P11.1
	for _, blocks := range []int{1, 8, 16, 64, 87, 88, 103} {
		d := device.New(blocks)
		if e := Mkfs(d); e != api.EINVAL || d.Count() != 0 {
			t.Errorf("Mkfs of %d blocks = %d, %d writes", blocks, e, d.Count())
		}
		wantNoMount(t, "too small", d, api.EINVAL)
		if blocks >= 16 {
			wal.Format(d)
			wantNoMount(t, "too small, with a volume", d, api.EINVAL)
		}
		d.Fuse(0)
		if e := Mkfs(d); e != api.EINVAL {
			t.Errorf("Mkfs of %d blocks, dead = %d", blocks, e)
		}
		wantNoMount(t, "too small and dead", d, api.EINVAL)
	}
	if e := Mkfs(nil); e != api.EINVAL {
		t.Errorf("Mkfs(nil) = %d", e)
	}
	wantNoMount(t, "nil", nil, api.EINVAL)
}

func TestANewFileSystem(t *testing.T) { // P11.1
	for _, blocks := range []int{104, 105, 119, 120, 600, 65536} {
		d, f := made(t, blocks)
		if len(d.Loose()) != 0 {
			t.Errorf("%d blocks: loose behind Mkfs: %v", blocks, d.Loose())
		}
		wantState(t, f, empty())
		wantState(t, mounted(t, d.Crash(nil)), empty())
		if f.Cost() != 2 {
			t.Errorf("Cost = %d", f.Cost())
		}
	}
}

func TestMkfsOfWhatWasThere(t *testing.T) { // P11.1
	d, f := made(t, 400)
	must(t, f, empty(), mkdir("d"), replace("d/f", "abc"), create("x"))
	if e := Mkfs(d); e != api.OK {
		t.Fatalf("Mkfs = %d", e)
	}
	wantState(t, mounted(t, d), empty())
	wantState(t, mounted(t, d.Crash(nil)), empty())
}

func TestDeadDevices(t *testing.T) { // P11.1
	d, f := made(t, 400)
	s := must(t, f, empty(), mkdir("d"))
	d.Fuse(0)
	if e := Mkfs(d); e != api.EIO {
		t.Errorf("Mkfs = %d", e)
	}
	wantNoMount(t, "dead", d, api.EIO)
	wantState(t, f, s)
	d = device.New(400)
	d.Fuse(0)
	wantNoMount(t, "dead, and without a file system", d, api.EIO)
}

// keeps are ways in which a crash keeps what is loose.
func keeps() map[string]func(int) bool {
	k := map[string]func(int) bool{
		"nil":   nil,
		"all":   func(int) bool { return true },
		"none":  func(int) bool { return false },
		"even":  func(i int) bool { return i%2 == 0 },
		"odd":   func(i int) bool { return i%2 == 1 },
		"head":  func(i int) bool { return i == 0 },
		"rest":  func(i int) bool { return i != 0 },
		"early": func(i int) bool { return i < 60 },
		"late":  func(i int) bool { return i >= 60 },
		"wild":  func(i int) bool { panic(i) },
	}
	for seed := range 4 {
		n := noise(seed)
		k[fmt.Sprint("noise", seed)] = func(int) bool { return n.below(2) == 0 }
	}
	return k
}

// used is a device with a file system that holds something.
func used(t *testing.T) *device.Device {
	d, f := made(t, 200)
	must(t, f, empty(), mkdir("d"), replace("d/f", "abc"), create("x"))
	return d
}

func TestMkfsThatDies(t *testing.T) { // P11.1
	for name, from := range map[string]func() *device.Device{
		"new":      func() *device.Device { return device.New(200) },
		"littered": func() *device.Device { return littered(200) },
	} {
		d := from()
		before := d.Count()
		if e := Mkfs(d); e != api.OK {
			t.Fatalf("Mkfs = %d", e)
		}
		all := d.Count() - before
		for fuse := range all + 1 {
			d := from()
			d.Fuse(fuse)
			if e := Mkfs(d); (e == api.OK) != (fuse == all) || e != api.OK && e != api.EIO {
				t.Errorf("%s, fuse %d: Mkfs = %d", name, fuse, e)
			}
			for k, keep := range keeps() {
				f, e := Mount(d.Crash(keep))
				switch {
				case e == api.OK:
					wantState(t, f, empty())
				case e != api.EBADMSG || f != nil || fuse == all:
					t.Errorf("%s, fuse %d, %s: Mount = %v, %d", name, fuse, k, f, e)
				}
			}
		}
	}
}

func TestMkfsThatDiesOverAnother(t *testing.T) { // P11.1: what was there before may be there still
	d := used(t)
	was := stateOf(t, mounted(t, d))
	before := d.Count()
	Mkfs(d)
	all := d.Count() - before
	for fuse := range all {
		d := used(t)
		mounted(t, d).Sync()
		d.Fuse(fuse)
		if e := Mkfs(d); e != api.EIO {
			t.Errorf("fuse %d: Mkfs = %d", fuse, e)
		}
		for k, keep := range keeps() {
			f, e := Mount(d.Crash(keep))
			if e == api.OK {
				if s := stateOf(t, f); len(s) != 1 && len(s) != len(was) {
					t.Errorf("fuse %d, %s: %v", fuse, k, s)
				}
			} else if e != api.EBADMSG || f != nil {
				t.Errorf("fuse %d, %s: Mount = %v, %d", fuse, k, f, e)
			}
		}
	}
}

// littered is a device full of bytes of all kinds.
func littered(blocks int) *device.Device {
	r := noise(blocks)
	d := device.New(blocks)
	for i := range blocks {
		d.Write(i, r.bytes(512))
	}
	d.Flush()
	return d
}

func TestMountOfNoFileSystem(t *testing.T) { // P11.1
	wantNoMount(t, "zeros", device.New(300), api.EBADMSG)
	wantNoMount(t, "litter", littered(300), api.EBADMSG)
	d := device.New(300)
	wal.Format(d)
	wantNoMount(t, "a volume of zeros", d, api.EBADMSG)
	v, _ := wal.Mount(d)
	r := noise(9)
	for i := range v.Blocks() {
		v.Commit(api.Put{Block: i, Data: r.bytes(512)})
	}
	wantNoMount(t, "a volume of litter", d, api.EBADMSG)
}

func TestCostBehindEachCall(t *testing.T) { // P11.1
	_, f := made(t, blocksOf(300))
	for i, x := range []struct {
		c    call
		cost int
	}{
		{mkdir("d"), 2 + 1 + 2}, {create("d/f"), 3 + 3 + 1}, {write("d/f", 0, "a"), 8}, {write("d/f", 511, "b"), 8}, {write("d/f", 512, "c"), 9},
		{write("d/f", 4095, "d"), 7 + 8}, {write("d/f", 4096, "e"), 7 + 9 + 1}, {write("d/f", 36863, "f"), 7 + 72 + 1}, {write("d/f", 36864, "g"), 7 + 73 + 3}, {write("d/f", 65535, "h"), 7 + 128 + 3},
		{truncate("d/f", 0), 7}, {truncate("d/f", 65536), 7 + 131}, {truncate("d/f", 1), 8}, {replace("d/f", strings.Repeat("x", 1025)), 10}, {rename("d/f", "f"), 3 + 2 + 4}, {remove("f"), 5},
		{create("1"), 6}, {create("2"), 7}, {create("3"), 8}, {create("4"), 10}, {create("5"), 11}, {create("6"), 12}, {create("7"), 13}, {create("8"), 15}, {remove("1"), 13}, {rename("2", "d/2"), 14}, {rename("3", "4"), 13}, {remove("d/2"), 11}, {remove("d"), 9},
	} {
		if a := x.c.on(f); a.e != api.OK || f.Cost() != x.cost {
			t.Fatalf("%d: %v = %d, Cost %d, want OK, %d", i, x.c, a.e, f.Cost(), x.cost)
		}
	}
}

func TestANilFileSystem(t *testing.T) { // P11.5
	var f *FS
	for _, c := range []call{mkdir("a"), mkdir(""), create("a"), write("a", 0, "x"), write("a", -1, ""), truncate("a", 0), replace("a", "x"), readAt("a", 0, 1), readAt("", -1, 1), remove("a"), remove(""), rename("a", "b"), rename("a", "a"), list(""), list("."), stat(""), {fn: "Mkdir", p: make([]string, 65)}} {
		if got := c.on(f); got != c.none(api.EIO) {
			t.Errorf("%v = %v", c, got)
		}
	}
	if f.Sync() != api.EIO || f.Cost() != 0 {
		t.Errorf("Sync = %d, Cost = %d", f.Sync(), f.Cost())
	}
}

func TestArgumentsAndAnswersAreTheCallersOwn(t *testing.T) { // P0.3, P11.5
	d, f := made(t, 400)
	room := []string{"d", "f", "spare"}
	p := room[:1]
	b := append(make([]byte, 0, 2000), strings.Repeat("ab", 300)...)
	if f.Mkdir(p) != 0 || f.Create(room[:2]) != 0 || f.Write(room[:2], 0, b) != 0 || f.Replace([]string{"g"}, b) != 0 {
		t.Fatal("refused")
	}
	if room[0] != "d" || room[1] != "f" || room[2] != "spare" || slices.ContainsFunc(b[600:2000], func(x byte) bool { return x != 0 }) {
		t.Error("an argument was written into")
	}
	clear(room)
	clear(b)
	want := state{"": {dir: true}, "d": {dir: true}, "d/f": {bytes: strings.Repeat("ab", 300)}, "g": {bytes: strings.Repeat("ab", 300)}}
	wantState(t, f, want)
	one, _ := f.Read(to("d/f"), 0, 600)
	two, _ := f.Read(to("d/f"), 0, 600)
	clear(one[:cap(one)])
	if string(two) != want["d/f"].bytes {
		t.Error("two answers share memory")
	}
	l, _ := f.List(nil)
	m, _ := f.List(nil)
	clear(l[:cap(l)])
	if len(m) != 2 || m[0].Name != "d" || m[1].Name != "g" {
		t.Error("two answers share memory")
	}
	wantState(t, f, want)
	wantState(t, mounted(t, d), want)
}

func TestNilListsAreEmptyLists(t *testing.T) { // P0.4
	_, f := made(t, 400)
	for _, p := range [][]string{nil, {}, make([]string, 0, 9)} {
		if s, e := f.Stat(p); e != 0 || !s.Dir || s.Size != 0 {
			t.Errorf("Stat = %v, %d", s, e)
		}
		if l, e := f.List(p); e != 0 || len(l) != 0 {
			t.Errorf("List = %v, %d", l, e)
		}
	}
	for i, b := range [][]byte{nil, {}, make([]byte, 0, 9)} {
		p := []string{fmt.Sprint(i)}
		if f.Replace(p, b) != 0 || f.Write(p, 7, b) != 0 {
			t.Error("refused")
		}
		if s, e := f.Stat(p); e != 0 || s != (api.Stat{}) {
			t.Errorf("Stat = %v, %d", s, e)
		}
	}
}
