package inode

import (
	"bytes"
	"slices"
	"testing"

	"lagoon/api"
	"lagoon/bcache"
	"lagoon/bitmap"
)

// The blocks of the file that scattered gives; from free on numbers are free.
const (
	singleBlock = 1 + iota
	dataOfSingle
	doubleBlock
	tableOfDouble
	dataOfDouble
	dataOfDirect
	lateOfSingle
	free
)

// scattered gives a file of four bytes in four blocks, behind direct, single and double numbers, all of it committed.
func scattered(t *testing.T) (*disk, *Inode, []byte) {
	t.Helper()
	d := made(t, 30)
	n := New()
	var want []byte
	for i, at := range []int{single, double, 0, single + 30*block} {
		mustWrite(t, d, n, at, text(1, i))
		want = over(want, at, text(1, i))
	}
	wantImage(t, n, image(double+1, dataOfDirect, 0, 0, 0, 0, 0, 0, 0, singleBlock, doubleBlock))
	wantTable(t, d, doubleBlock, tableOfDouble)
	wantTable(t, d, tableOfDouble, dataOfDouble)
	mustCommit(t, d)
	return d, n, want
}

// call is a Write of b at at or, if cuts, a Truncate to at; it must get some blocks and put some.
type call struct {
	cuts bool
	at   int
	b    []byte
	gets []int
	puts []int
}

func (x call) do(d *disk, n *Inode) api.Errno {
	if x.cuts {
		return n.Truncate(d.c, d.m, x.at)
	}
	return n.Write(d.c, d.m, x.at, x.b)
}

// of gives what a file of these bytes holds behind the call.
func (x call) of(file []byte) []byte {
	if x.cuts {
		return append(slices.Clone(file[:min(len(file), x.at)]), make([]byte, max(0, x.at-len(file)))...)
	}
	return over(file, x.at, x.b)
}

func calls() []call {
	one, whole := []byte{200}, text(block, 200)
	return []call{
		{at: 5, b: one, gets: []int{dataOfDirect}, puts: []int{dataOfDirect}},
		{at: 0, b: whole, puts: []int{dataOfDirect}},
		{at: block, b: one, puts: []int{free}},
		{at: block - 1, b: []byte{1, 2}, gets: []int{dataOfDirect}, puts: []int{dataOfDirect, free}},
		{at: single + 9, b: one, gets: []int{singleBlock, dataOfSingle}, puts: []int{dataOfSingle}},
		{at: single, b: whole, gets: []int{singleBlock}, puts: []int{dataOfSingle}},
		{at: single + block, b: one, gets: []int{singleBlock}, puts: []int{singleBlock, free}},
		{at: double, b: one, gets: []int{doubleBlock, tableOfDouble, dataOfDouble}, puts: []int{dataOfDouble}},
		{at: double + block, b: one, gets: []int{doubleBlock, tableOfDouble}, puts: []int{tableOfDouble, free}},
		{at: double - block, b: text(2*block, 3), gets: []int{singleBlock, doubleBlock, tableOfDouble}, puts: []int{singleBlock, free, dataOfDouble}},
		{cuts: true, at: 0, gets: []int{singleBlock, doubleBlock, tableOfDouble}},
		{cuts: true, at: block, gets: []int{singleBlock, doubleBlock, tableOfDouble}},
		{cuts: true, at: block - 1, gets: []int{dataOfDirect, singleBlock, doubleBlock, tableOfDouble}, puts: []int{dataOfDirect}},
		{cuts: true, at: single, gets: []int{singleBlock, doubleBlock, tableOfDouble}},
		{cuts: true, at: single + 1, gets: []int{dataOfSingle, singleBlock, doubleBlock, tableOfDouble}, puts: []int{dataOfSingle, singleBlock}},
		{cuts: true, at: single + block, gets: []int{singleBlock, doubleBlock, tableOfDouble}, puts: []int{singleBlock}},
		{cuts: true, at: single + 31*block, gets: []int{singleBlock, doubleBlock, tableOfDouble}},
		{cuts: true, at: double, gets: []int{doubleBlock, tableOfDouble}},
		{cuts: true, at: double + 1},
		{cuts: true, at: most},
	}
}

// tight makes the cache one that holds the blocks, pinned, and has room for so many besides.
func tight(t *testing.T, d *disk, held []int, room int) {
	t.Helper()
	// One more that no call needs, for there is no cache without room.
	held = append([]int{29}, held...)
	d.c = bcache.New(d.v, len(held)+room)
	for _, i := range held {
		if e := d.c.Pin(i); e != api.OK {
			t.Fatalf("Pin(%d) = %d", i, e)
		}
	}
}

// wantPins tells whether just the blocks of tight are pinned, once each; then they are not any more.
func wantPins(t *testing.T, d *disk, held []int) {
	t.Helper()
	for i := range d.v.Blocks() {
		pinned := i == 29 || slices.Contains(held, i)
		if e := d.c.Unpin(i); (e == api.OK) != pinned || d.c.Unpin(i) != api.EINVAL {
			t.Errorf("block %d is left pinned, or not: %d", i, e)
		}
	}
}

// subsets gives each choice of the list's elements.
func subsets(list []int) [][]int {
	all := [][]int{nil}
	for _, x := range list {
		for _, s := range all {
			all = append(all, append(slices.Clone(s), x))
		}
	}
	return all
}

// without tells how many elements of list are not among the others.
func without(list, others []int) int {
	k := 0
	for _, x := range list {
		if !slices.Contains(others, x) {
			k++
		}
	}
	return k
}

// enough tells whether a call may be done in a cache that holds those blocks and has room for so many besides.
func (x call) enough(held []int, room int) bool {
	return without(x.puts, held) <= room && (room > 0 || without(x.gets, held) == 0)
}

func TestACacheWithoutRoom(t *testing.T) { // P9.3, P0.2
	for i, x := range calls() {
		involved := slices.Compact(slices.Sorted(slices.Values(append(slices.Clone(x.gets), x.puts...))))
		for _, held := range subsets(involved) {
			for room := range 4 {
				d, n, was := scattered(t)
				tight(t, d, held, room)
				image, used := n.Bytes(), d.m.Bytes()
				e := x.do(d, n)
				wantPins(t, d, held)
				want := was
				if x.enough(held, room) {
					want = x.of(was)
					if e != api.OK {
						t.Errorf("call %d, held %v and room for %d: %d", i, held, room, e)
					}
					mustCommit(t, d)
				} else {
					if e != api.ENOSPC || !bytes.Equal(d.m.Bytes(), used) {
						t.Errorf("call %d, held %v and room for %d: %d, or the map has changed", i, held, room, e)
					}
					wantImage(t, n, image)
					wantFile(t, d, n, want)
					d.c.Drop()
				}
				wantFile(t, d, n, want)
				d.c = bcache.New(d.v, 1)
				wantFile(t, d, n, want)
				if t.Failed() {
					t.FailNow()
				}
			}
		}
	}
}

func TestACallThatWasRefusedMayBeMadeAgain(t *testing.T) { // P9.3
	for _, x := range calls() {
		d, n, was := scattered(t)
		tight(t, d, nil, 0)
		x.do(d, n)
		d.c.Drop()
		d.c = bcache.New(d.v, 30)
		if e := x.do(d, n); e != api.OK {
			t.Errorf("again: %d", e)
		}
		wantFile(t, d, n, x.of(was))
		mustTruncate(t, d, n, 0)
		wantTaken(t, d, 0)
	}
}

func TestReadFromACacheWithoutRoom(t *testing.T) { // P9.3, P0.2
	for _, x := range []struct {
		at, count int
		gets      []int
	}{
		{0, 1, []int{dataOfDirect}},
		{block - 1, 9, []int{dataOfDirect}},
		{block, block, nil},
		{single, 1, []int{singleBlock, dataOfSingle}},
		{single + block, 1, []int{singleBlock}},
		{double, 1, []int{doubleBlock, tableOfDouble, dataOfDouble}},
		{double - 1, 2, []int{singleBlock, doubleBlock, tableOfDouble, dataOfDouble}},
		{0, most, []int{dataOfDirect, singleBlock, dataOfSingle, lateOfSingle, doubleBlock, tableOfDouble, dataOfDouble}},
	} {
		d, n, was := scattered(t)
		for _, held := range subsets(x.gets) {
			tight(t, d, held, 0)
			if len(held) == len(x.gets) {
				wantRead(t, d, n, x.at, x.count, was[x.at:min(len(was), x.at+x.count)])
			} else if b, e := n.Read(d.c, x.at, x.count); len(b) != 0 || e != api.ENOSPC {
				t.Errorf("Read(%d, %d), held %v = %d bytes, %d", x.at, x.count, held, len(b), e)
			}
			wantPins(t, d, held)
			tight(t, d, held, 1)
			wantRead(t, d, n, x.at, x.count, was[x.at:min(len(was), x.at+x.count)])
		}
	}
}

func TestNoCache(t *testing.T) { // P9.3
	for i, x := range calls() {
		d, n, was := scattered(t)
		image, used, c := n.Bytes(), d.m.Bytes(), d.c
		d.c = nil
		want := api.EINVAL
		if len(x.gets)+len(x.puts) == 0 {
			want, was, image = api.OK, x.of(was), nil
		}
		if e := x.do(d, n); e != want || !bytes.Equal(d.m.Bytes(), used) {
			t.Errorf("call %d of no cache = %d, want %d", i, e, want)
		}
		d.c = c
		if image != nil {
			wantImage(t, n, image)
		}
		wantFile(t, d, n, was)
	}
}

func TestTheMapsErrorIsToldFirst(t *testing.T) { // P0.2
	n := New()
	if e := n.Write(nil, usedBelow(t, 9, 9), 0, []byte{1}); e != api.ENOSPC {
		t.Errorf("Write without a number and without a cache = %d", e)
	}
	if e := n.Write(nil, usedBelow(t, 9, 8), 0, []byte{1}); e != api.EINVAL {
		t.Errorf("Write without a cache = %d", e)
	}
	// The first block can't be read, but for the second one there is no number.
	n = mustLoad(t, image(5, 999))
	if e := n.Write(nil, usedBelow(t, 9, 9), 1, text(block, 1)); e != api.ENOSPC {
		t.Errorf("Write without a number = %d", e)
	}
	wantImage(t, n, image(5, 999))
}

func TestNumbersOutOfTheVolume(t *testing.T) { // P9.3, P0.1, P0.2
	for _, far := range []uint32{30, 31, 65536, 1 << 31, 1<<32 - 1} {
		for _, x := range []struct {
			list []uint32
			at   int
		}{{[]uint32{far}, 0}, {[]uint32{0, 0, 0, 0, 0, 0, 0, 0, far}, single}, {[]uint32{0, 0, 0, 0, 0, 0, 0, 0, 0, far}, double}} {
			d := made(t, 30)
			is := image(most, x.list...)
			n := mustLoad(t, is)
			if b, e := n.Read(d.c, x.at, 1); len(b) != 0 || e != api.EINVAL {
				t.Errorf("Read(%d) = %x, %d", x.at, b, e)
			}
			if e := n.Write(d.c, d.m, x.at, []byte{1}); e != api.EINVAL {
				t.Errorf("Write(%d) = %d", x.at, e)
			}
			if e := n.Write(d.c, d.m, 0, text(most, 1)); e != api.EINVAL && e != api.ENOSPC {
				t.Errorf("Write of all = %d", e)
			}
			if e := n.Truncate(d.c, d.m, x.at+1); e != api.EINVAL {
				t.Errorf("Truncate(%d) = %d", x.at+1, e)
			}
			wantImage(t, n, is)
			wantTaken(t, d, 0)
		}
	}
}

func TestAMapThatIsGreaterThanTheVolume(t *testing.T) { // P9.3
	d := made(t, 12)
	d.m = usedBelow(t, 100, 3)
	n := written(t, d, text(3*block, 1))
	was, used := n.Bytes(), d.m.Bytes()
	for _, x := range []span{{0, single + 1}, {single, 20 * block}, {double, 20 * block}} {
		if e := n.Write(d.c, d.m, x.at, text(x.count, 2)); e != api.EINVAL {
			t.Errorf("Write of %d bytes at %d = %d", x.count, x.at, e)
		}
		wantImage(t, n, was)
		wantFile(t, d, n, text(3*block, 1))
		if !bytes.Equal(d.m.Bytes(), used) {
			t.Error("the map has changed")
		}
	}
}

// tangled gives an inode and a disk whose blocks are numbers that lead anywhere.
func tangled(t *testing.T, r *noise) (*disk, *Inode) {
	t.Helper()
	d := made(t, 16)
	any := func() uint32 {
		if r.below(9) == 0 {
			return uint32(r.below(1 << 31))
		}
		return uint32(r.below(16))
	}
	for i := range 16 {
		var list []uint32
		for range fanOut * 2 {
			list = append(list, any())
		}
		if e := d.c.Put(i, words(list...)); e != api.OK {
			t.Fatalf("Put = %d", e)
		}
	}
	mustCommit(t, d)
	d.m, _ = bitmap.Load([]byte{byte(r.below(256)), byte(r.below(256))}, 16)
	d.c = bcache.New(d.v, 1+r.below(17))
	list := []uint32{uint32(r.below(most + 1))}
	for range 10 {
		list = append(list, any())
	}
	return d, mustLoad(t, words(list...))
}

func TestInodesThatLeadAnywhere(t *testing.T) { // P0.1, P0.2, P9.3
	for seed := range 2000 {
		r := noise(seed)
		d, n := tangled(t, &r)
		for range 6 {
			image, used := n.Bytes(), d.m.Bytes()
			at := r.below(most+20) - 10
			size := n.Size()
			var e api.Errno
			switch r.below(3) {
			case 0:
				b, bad := n.Read(d.c, at, r.below(most))
				if bad != api.OK && len(b) != 0 {
					t.Errorf("seed %d: bytes beside the error %d", seed, bad)
				}
				e = api.EINVAL
			case 1:
				if e = n.Write(d.c, d.m, at, text(1+r.below(3000), seed)); e == api.OK {
					size = max(size, n.Size())
				}
			default:
				if e = n.Truncate(d.c, d.m, at); e == api.OK {
					size = at
				}
			}
			if e != api.OK && (!bytes.Equal(n.Bytes(), image) || !bytes.Equal(d.m.Bytes(), used)) {
				t.Errorf("seed %d: the error %d has changed something", seed, e)
			}
			if n.Size() != size || len(n.Bytes()) != 44 {
				t.Errorf("seed %d: Size = %d, want %d", seed, n.Size(), size)
			}
		}
	}
}
