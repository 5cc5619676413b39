package oplog

import (
	"math"
	"slices"
	"testing"

	"lagoon/api"
	"lagoon/codec"
	"lagoon/crc"
	"lagoon/localfs"
	"lagoon/ops"
)

func wantNoLog(t *testing.T, what string, f *localfs.FS, room int, want api.Errno) {
	t.Helper()
	if l, e := Open(f, room); l != nil || e != want {
		t.Errorf("%s: Open = %d (a log: %v), want %d and none", what, e, l != nil, want)
	}
}

func TestOpenOfNoneAndOfNoRoom(t *testing.T) { // P13.1
	for _, room := range []int{math.MinInt, -1, 0, 1, math.MaxInt} {
		wantNoLog(t, "nil", nil, room, api.EINVAL)
	}
	f := mounted(t, formatted(t, 40))
	for _, room := range []int{-1, -2, -1 << 40, math.MinInt} {
		wantNoLog(t, "a room below 0", f, room, api.EINVAL)
	}
}

func TestOpenOfAnEmptyFileSystem(t *testing.T) { // P13.1
	for _, room := range []int{0, 1, 42, 1024, 1 << 40, math.MaxInt} {
		d := formatted(t, 40)
		count := d.Count()
		l := opened(t, mounted(t, d), room)
		wantLog(t, l, plain{room: room})
		if d.Count() != count {
			t.Errorf("Open of an empty file system wrote %d times", d.Count()-count)
		}
		p := add(t, l, plain{room: room}, dir(3, 9))
		wantLog(t, l, p)
	}
}

func TestRoomsAtTheirEdges(t *testing.T) { // P13.1, P13.2
	one := dir(0, 7)
	for _, room := range []int{0, 1, plainCost(one) - 1, plainCost(one), plainCost(one) + 1} {
		l := opened(t, mounted(t, formatted(t, 40)), room)
		p := add(t, l, plain{room: room}, one)
		if (len(p.ops) == 1) != (room >= plainCost(one)) {
			t.Fatal("the test itself is wrong")
		}
		wantLog(t, l, p)
	}
}

func TestOpenAgain(t *testing.T) { // P13.1
	d, l, p := made(t, 60)
	f := l.files
	for i, o := range some() {
		p = mustAdd(t, l, p, o)
		if i%2 == 0 {
			p = mustSet(t, l, p, o.Name+"!")
		}
		count := d.Count()
		for range 2 {
			wantLog(t, opened(t, f, p.room), p)
		}
		if d.Count() != count {
			t.Error("Open of a log wrote something")
		}
		wantLog(t, opened(t, mounted(t, d.Crash(all)), p.room), p)
	}
	// It goes on from there.
	l = opened(t, f, p.room)
	p = mustAdd(t, l, p, dir(0, 20, 3, 2, 0, 0, 0, 1))
	p = mustSet(t, l, p, "at the end")
	wantLog(t, l, p)
	wantLog(t, opened(t, mounted(t, d), p.room), p)
}

func TestOpenWithAnotherRoom(t *testing.T) { // P13.1: the room is no part of what f holds
	d, l, p := made(t, 60)
	p = mustAdd(t, l, p, some()...)
	cost := plainCost(p.ops...)
	for _, room := range []int{0, 1, cost - 1, cost, cost + 1, math.MaxInt} {
		p.room = room
		l = opened(t, mounted(t, d), room)
		wantLog(t, l, p)
		wantLog(t, l, add(t, l, p, p.sized(t, 9, 40)))
		l = opened(t, mounted(t, d.Crash(nil)), room)
		wantLog(t, l, mustSet(t, l, p, "meta"))
	}
}

func TestOpenOfWhatCannotBeRead(t *testing.T) { // P13.1: EIO; and the calls that follow
	wantNoLog(t, "a file system that was never mounted", new(localfs.FS), 5, api.EIO)
	d, l, p := made(t, 60)
	p = mustAdd(t, l, p, some()...)
	d.Fuse(0)
	// It can be read, though nothing can be kept.
	l = opened(t, l.files, p.room)
	wantLog(t, l, p)
	if n, e := l.Add(dir(9, 1)); n != 0 || e != api.EIO {
		t.Errorf("Add = %d, %d", n, e)
	}
	wantLog(t, l, p)
}

func TestOpenBesideOtherFiles(t *testing.T) { // P13.1
	f := mounted(t, formatted(t, 60))
	f.Mkdir([]string{"dir"})
	f.Replace([]string{"dir", "file"}, []byte("bytes"))
	f.Create([]string{"file"})
	p := plain{room: 2000}
	l := opened(t, f, p.room)
	wantLog(t, l, p)
	p = mustAdd(t, l, p, some()...)
	wantLog(t, opened(t, f, p.room), p)
}

// spoilt calls ask with the file system of a log that is spoilt in many ways, one behind the other.
func spoilt(t *testing.T, f *localfs.FS, name string, ask func(what string)) {
	t.Helper()
	path := []string{name}
	s, e := f.Stat(path)
	if e != api.OK {
		t.Fatalf("Stat = %d", e)
	}
	was, _ := f.Read(path, 0, s.Size)
	step := 1 + s.Size/1500
	for i := 0; i < s.Size; i += step {
		f.Write(path, i, []byte{was[i] ^ 1<<(i%8)})
		ask("a bit")
		f.Write(path, i, []byte{^was[i]})
		ask("a byte")
		f.Write(path, i, was[i:i+1])
	}
	for size := 0; size < s.Size; size += step {
		f.Replace(path, was[:size])
		ask("cut")
		f.Truncate(path, s.Size)
		if slices.ContainsFunc(was[size:], func(x byte) bool { return x != 0 }) {
			ask("zeros at the end")
		}
	}
	f.Replace(path, slices.Repeat([]byte{0xa5}, s.Size))
	ask("litter")
	f.Remove(path)
	ask("gone")
	f.Mkdir(path)
	ask("a directory")
	f.Remove(path)
	f.Replace(path, was)
}

func TestSpoiltFiles(t *testing.T) { // P13.1
	_, l, p := made(t, 60)
	p = mustAdd(t, l, p, some()...)
	p = mustSet(t, l, p, "some meta")
	f := l.files
	entries, _ := f.List(nil)
	if len(entries) < 2 {
		t.Fatalf("%v: the test itself is wrong", entries)
	}
	for _, x := range entries {
		spoilt(t, f, x.Name, func(what string) { wantNoLog(t, x.Name+", "+what, f, p.room, api.EBADMSG) })
		wantLog(t, opened(t, f, p.room), p)
	}
}

func TestSpoiltFilesOfAGreatLog(t *testing.T) { // P13.1
	_, l, p := made(t, 2000)
	p = mustAdd(t, l, p, p.sized(t, 0, 60000))
	p = mustAdd(t, l, p, p.sized(t, 1, 60000))
	p = mustAdd(t, l, p, p.sized(t, 2, 30000))
	f := l.files
	entries, _ := f.List(nil)
	for _, x := range entries {
		path := []string{x.Name}
		was, _ := f.Read(path, 0, x.Size)
		for i := 0; i < x.Size; i += 1 + x.Size/9 {
			f.Write(path, i, []byte{was[i] ^ 16})
			wantNoLog(t, x.Name+", a bit", f, p.room, api.EBADMSG)
			f.Replace(path, was[:i])
			wantNoLog(t, x.Name+", cut", f, p.room, api.EBADMSG)
			f.Replace(path, was)
		}
		f.Remove(path)
		wantNoLog(t, x.Name+", gone", f, p.room, api.EBADMSG)
		f.Replace(path, was)
	}
	f.Rename(partPath(0), []string{"other"})
	f.Rename(partPath(1), partPath(0))
	f.Rename([]string{"other"}, partPath(1))
	wantNoLog(t, "two parts in each other's place", f, p.room, api.EBADMSG)
	f.Remove(headPath())
	f.Remove(partPath(0))
	wantNoLog(t, "without its first files", f, p.room, api.EBADMSG)
}

// headOf gives a head, of any numbers and bytes.
func headOf(size int, meta []byte) []byte {
	w := codec.NewWriter()
	w.Num(int64(size))
	w.Bytes(meta)
	b, _ := w.Done()
	return framed(b)
}

func framed(b []byte) []byte {
	frame, e := crc.Frame(b)
	if e != api.OK {
		panic(e)
	}
	return frame
}

func encoded(os ...api.Op) []byte {
	var out []byte
	for _, o := range os {
		b, e := ops.Encode(o)
		if e != api.OK {
			panic(e)
		}
		out = append(out, framed(b)...)
	}
	return out
}

func TestCraftedFiles(t *testing.T) { // P13.1: what has its sums right and is none that a log gives
	f := mounted(t, formatted(t, 60))
	good := encoded(some()...)
	one := encoded(some()[0])
	lay := func(head, part []byte) {
		f.Replace(headPath(), head)
		f.Replace(partPath(0), part)
	}
	p := plain{room: 2000, ops: some(), meta: "m"}
	lay(headOf(len(good), []byte("m")), good)
	wantLog(t, opened(t, f, 2000), p)
	// What stands behind the bytes that count is nobody's.
	lay(headOf(len(good), []byte("m")), append(slices.Clone(good), one...))
	wantLog(t, opened(t, f, 2000), p)
	for what, x := range map[string]struct{ head, part []byte }{
		"a head that counts one more":   {headOf(len(good)+1, nil), good},
		"a head that counts one less":   {headOf(len(good)-1, nil), good},
		"a head that counts far more":   {headOf(1<<62, nil), good},
		"a Meta that is too long":       {headOf(len(good), make([]byte, 257)), good},
		"a head with more bytes":        {append(headOf(len(good), nil), 0), good},
		"a head with more inside":       {framed([]byte{0, 0, 0}), nil},
		"a head with less inside":       {framed([]byte{0}), nil},
		"an empty head":                 {framed(nil), nil},
		"a head that is empty":          {nil, nil},
		"no operation":                  {headOf(8, nil), framed(nil)},
		"bytes that are no operation":   {headOf(12, nil), framed([]byte("abcd"))},
		"an operation with more bytes":  {headOf(len(one)+1, nil), framed(append(one[8:len(one):len(one)], 0))},
		"an operation twice":            {headOf(2*len(one), nil), append(slices.Clone(one), one...)},
		"a second one without a first":  {headOf(len(encoded(dir(0, 9, 1))), nil), encoded(dir(0, 9, 1))},
		"one that has seen what is not": {headOf(len(encoded(dir(1, 9, 1))), nil), encoded(dir(1, 9, 1))},
		"a stamp that does not rise":    {headOf(len(encoded(dir(0, 9), dir(0, 8, 1))), nil), encoded(dir(0, 9), dir(0, 8, 1))},
		"a stamp below what was seen":   {headOf(len(encoded(dir(0, 9), dir(1, 8, 1))), nil), encoded(dir(0, 9), dir(1, 8, 1))},
	} {
		lay(x.head, x.part)
		wantNoLog(t, what, f, 2000, api.EBADMSG)
	}
	// All parts but the last one are full.
	lay(headOf(len(good), nil), good[:len(one)])
	f.Replace(partPath(1), good[len(one):])
	wantNoLog(t, "parts that are cut at another place", f, 2000, api.EBADMSG)
}

func TestFilesOfNoise(t *testing.T) { // P0.1, P13.1
	r := noise(1)
	f := mounted(t, formatted(t, 60))
	for range 300 {
		f.Replace(headPath(), headOf(r.below(300), r.bytes(r.below(5))))
		f.Replace(partPath(0), r.bytes(r.below(400)))
		if r.below(2) == 0 {
			f.Replace(headPath(), r.bytes(r.below(40)))
		}
		if l, e := Open(f, 2000); e != api.EBADMSG || l != nil {
			// A head that counts nothing needs no bytes.
			if e != api.OK || l.Cost() != 0 {
				t.Fatalf("Open = %v, %d", l, e)
			}
		}
	}
}

func TestADeviceOverwrittenBelowALog(t *testing.T) { // P0.1
	for seed := range 30 {
		r := noise(seed)
		d, l, p := made(t, 60)
		p = mustAdd(t, l, p, some()...)
		for range 1 + r.below(60) {
			d.Write(r.below(d.Blocks()), r.bytes(512))
		}
		for range 3 {
			if k, e := Open(l.files, p.room); (k == nil) != (e != api.OK) || e != api.OK && e != api.EIO && e != api.EBADMSG {
				t.Errorf("Open = %v, %d", k, e)
			}
			l.Add(p.sized(t, 8, 90))
			l.SetMeta(r.bytes(9))
			l.Sync()
		}
	}
}
