package inode

import (
	"bytes"
	"math"
	"slices"
	"testing"

	"lagoon/api"
	"lagoon/bcache"
	"lagoon/bitmap"
)

// over gives what a file of these bytes holds behind a Write of b at at.
func over(file []byte, at int, b []byte) []byte {
	if len(b) == 0 {
		return slices.Clone(file)
	}
	all := make([]byte, max(len(file), at+len(b)))
	copy(all, file)
	copy(all[at:], b)
	return all
}

func TestRead(t *testing.T) { // P9.2
	for _, size := range []int{1, 700, block, 3 * block, single + 10, double + 2*block + 9, most} {
		d := made(t, 140)
		want := text(size, 2)
		n := written(t, d, want)
		for _, at := range []int{0, 1, 100, block - 1, block, block + 1, single - 1, single, double - 1, double, size - 1, size, size + 1, most, most + 1, math.MaxInt} {
			for _, count := range []int{0, 1, 2, block - 1, block, block + 1, 3 * block, size - at, size - at + 1, most, most + 1, math.MaxInt} {
				if count < 0 {
					continue
				}
				from := min(at, size)
				wantRead(t, d, n, at, count, want[from:from+min(count, size-from)])
			}
		}
	}
}

func TestReadRefuses(t *testing.T) { // P9.2, P0.2
	d := made(t, 8)
	for _, n := range []*Inode{New(), written(t, d, text(100, 1))} {
		for _, x := range [][2]int{{-1, 0}, {-1, 5}, {0, -1}, {5, -1}, {-1, -1}, {100, -1}, {most + 1, -1}, {math.MinInt, 1}, {1, math.MinInt}, {math.MinInt, math.MaxInt}, {math.MaxInt, math.MinInt}} {
			if b, e := n.Read(d.c, x[0], x[1]); len(b) != 0 || e != api.EINVAL {
				t.Errorf("Read(%d, %d) = %x, %d", x[0], x[1], b, e)
			}
		}
		if b, e := n.Read(nil, -1, 1); len(b) != 0 || e != api.EINVAL {
			t.Errorf("Read of no cache = %x, %d", b, e)
		}
	}
}

func TestReadNeedsNoCacheForHoles(t *testing.T) { // P9.2, P9.3
	n := mustLoad(t, image(3*block, 0, 5, 0))
	for _, at := range []int{0, 2 * block} {
		if b, e := n.Read(nil, at, block); e != api.OK || !bytes.Equal(b, make([]byte, block)) {
			t.Errorf("Read of the hole at %d = %d bytes, %d", at, len(b), e)
		}
	}
	if b, e := n.Read(nil, block, 0); len(b) != 0 || e != api.OK {
		t.Errorf("Read of nothing = %d bytes, %d", len(b), e)
	}
	if b, e := n.Read(nil, 0, 3*block); len(b) != 0 || e != api.EINVAL {
		t.Errorf("Read of a block of no cache = %d bytes, %d", len(b), e)
	}
}

func TestWriteOneByteAtTheEdges(t *testing.T) { // P9.2
	for _, x := range []struct{ at, taken int }{
		{0, 1}, {1, 1}, {block - 1, 1}, {block, 1}, {7 * block, 1}, {single - 1, 1},
		{single, 2}, {single + 1, 2}, {40 * block, 2}, {double - block, 2}, {double - 1, 2},
		{double, 3}, {double + 1, 3}, {100 * block, 3}, {most - block, 3}, {most - 1, 3},
	} {
		d := made(t, 10)
		n := New()
		mustWrite(t, d, n, x.at, []byte{9})
		wantFile(t, d, n, over(nil, x.at, []byte{9}))
		wantTaken(t, d, x.taken)
		mustWrite(t, d, n, x.at, []byte{8})
		wantFile(t, d, n, over(nil, x.at, []byte{8}))
		wantTaken(t, d, x.taken)
		if x.taken > Cost(n.Size()) {
			t.Errorf("at %d: %d taken, the cost is %d", x.at, x.taken, Cost(n.Size()))
		}
	}
}

func TestWritesOverOneAnother(t *testing.T) { // P9.2
	for _, x := range []struct{ size, at, count, taken int }{
		{block, 100, 50, 1}, {block, 0, block, 1}, {block, 100, 500, 2}, {block, 500, 3 * block, 4},
		{3 * block, block, block, 3}, {3 * block, block - 1, block + 2, 3}, {10, 10, 10, 1}, {10, 11, 10, 1}, {10, 2 * block, 10, 2},
		{single, single - 1, 2, 10}, {single - 1, single, 1, 10}, {single + block, single, block, 10}, {single + block, single - 3, 6, 10},
		{double, double - 1, 2, 76}, {double + 1, double - 700, 1500, 77}, {double, 0, most, 131}, {most, 0, most, 131}, {most, most - 1, 1, 131},
		{1, most - 1, 1, 4}, {1, double - block, 2 * block, 6}, {1, single - block, 2 * block, 4}, {1, single - 1, most - single + 1, 125},
	} {
		d := made(t, 140)
		n := written(t, d, text(x.size, 1))
		b := text(x.count, 2)
		mustWrite(t, d, n, x.at, b)
		want := over(text(x.size, 1), x.at, b)
		wantFile(t, d, n, want)
		wantTaken(t, d, x.taken)
		if x.taken > Cost(len(want)) {
			t.Errorf("%d taken, the cost of %d is %d", x.taken, len(want), Cost(len(want)))
		}
	}
}

func TestWriteOfZerosTakesBlocks(t *testing.T) { // P9.2
	d := made(t, 20)
	n := written(t, d, make([]byte, single+1))
	wantTaken(t, d, 10)
	wantFile(t, d, n, make([]byte, single+1))
}

func TestHolesAreFilled(t *testing.T) { // P9.2
	d := made(t, 140)
	n := New()
	var want []byte
	for k := 127; k >= 0; k -= 2 {
		at := k*block + 5
		mustWrite(t, d, n, at, text(3, k))
		want = over(want, at, text(3, k))
	}
	wantTaken(t, d, 64+3)
	wantFile(t, d, n, want)
	for k := 0; k < 128; k += 2 {
		at := k*block + 500
		mustWrite(t, d, n, at, text(7, k))
		want = over(want, at, text(7, k))
	}
	wantTaken(t, d, 131)
	wantFile(t, d, n, want)
}

func TestWriteThatIsTooBig(t *testing.T) { // P9.2, P0.2, P0.6
	d := made(t, 140)
	n := written(t, d, text(10, 1))
	was := n.Bytes()
	for _, x := range []struct{ at, count int }{
		{most, 1}, {most - 1, 2}, {0, most + 1}, {1, most}, {most + 1, 0}, {most + 1, 1}, {1 << 40, 0}, {math.MaxInt, 0}, {math.MaxInt, 1}, {math.MaxInt, most}, {math.MaxInt - most, most + 1}, {5, 3 * most},
	} {
		if e := n.Write(d.c, d.m, x.at, make([]byte, x.count)); e != api.EFBIG {
			t.Errorf("Write of %d bytes at %d = %d", x.count, x.at, e)
		}
		// It is told ahead of what the map and the cache tell.
		if e := n.Write(nil, nil, x.at, make([]byte, x.count)); e != api.EFBIG {
			t.Errorf("Write of %d bytes at %d to nothing = %d", x.count, x.at, e)
		}
	}
	wantImage(t, n, was)
	wantTaken(t, d, 1)
	mustWrite(t, d, n, 0, text(most, 2))
	wantFile(t, d, n, text(most, 2))
}

func TestWriteBelowZero(t *testing.T) { // P9.2, P0.2
	d := made(t, 8)
	n := written(t, d, text(10, 1))
	was := n.Bytes()
	for _, at := range []int{-1, -most, math.MinInt} {
		for _, b := range [][]byte{nil, {}, {1}, make([]byte, most+1)} {
			if e := n.Write(d.c, d.m, at, b); e != api.EINVAL {
				t.Errorf("Write of %d bytes at %d = %d", len(b), at, e)
			}
		}
	}
	wantImage(t, n, was)
	wantTaken(t, d, 1)
}

func TestWriteOfNothing(t *testing.T) { // P9.2, P0.4
	d := made(t, 8)
	n := written(t, d, text(10, 1))
	was := n.Bytes()
	for _, at := range []int{0, 5, 10, 11, block, single, double, most} {
		for _, b := range [][]byte{nil, {}} {
			if e := n.Write(d.c, d.m, at, b); e != api.OK {
				t.Errorf("Write of nothing at %d = %d", at, e)
			}
			if e := n.Write(nil, nil, at, b); e != api.OK {
				t.Errorf("Write of nothing at %d to nothing = %d", at, e)
			}
		}
	}
	wantImage(t, n, was)
	wantTaken(t, d, 1)
}

// need gives a file of these writes, and how many blocks the last one takes.
type need struct {
	before []span
	last   span
	blocks int
}

type span struct{ at, count int }

func needs() []need {
	return []need{
		{nil, span{0, 1}, 1},
		{nil, span{0, 3 * block}, 3},
		{nil, span{0, single}, 8},
		{nil, span{0, single + 1}, 10},
		{nil, span{single, 1}, 2},
		{nil, span{single - 1, 2}, 3},
		{nil, span{double - 1, 1}, 2},
		{nil, span{double, 1}, 3},
		{nil, span{double - 1, 2}, 5},
		{nil, span{0, most}, 131},
		{[]span{{0, 1}}, span{0, block}, 0},
		{[]span{{0, 1}}, span{1, block}, 1},
		{[]span{{single, 1}}, span{single + block, block}, 1},
		{[]span{{single, 1}}, span{double - block, block + 1}, 4},
		{[]span{{double, 1}}, span{double - 1, block + 2}, 3},
		{[]span{{double, 1}}, span{most - 1, 1}, 1},
		{[]span{{0, 1}, {3 * block, 1}, {single + block, 1}}, span{0, single + 2*block}, 7},
		{[]span{{0, double}}, span{0, most}, 58},
		{[]span{{0, most}}, span{1, most - 1}, 0},
	}
}

// build does the writes that come first, on a disk of which just so many numbers are free then.
func (x need) build(t *testing.T, free int) (*disk, *Inode) {
	t.Helper()
	d := made(t, 280)
	n := New()
	for i, s := range x.before {
		mustWrite(t, d, n, s.at, text(s.count, i))
	}
	mustCommit(t, d)
	for d.m.Free() > free {
		if _, e := d.m.Take(); e != api.OK {
			t.Fatalf("Take = %d", e)
		}
	}
	return d, n
}

func TestJustAsManyNumbersAsAreNeeded(t *testing.T) { // P9.2
	for i, x := range needs() {
		d, n := x.build(t, x.blocks)
		was, _ := n.Read(d.c, 0, most)
		b := text(x.last.count, 99)
		if e := n.Write(d.c, d.m, x.last.at, b); e != api.OK || d.m.Free() != 0 {
			t.Errorf("%d: Write = %d, %d are free", i, e, d.m.Free())
		}
		wantFile(t, d, n, over(was, x.last.at, b))
	}
}

func TestOneNumberTooFew(t *testing.T) { // P9.2, P9.3, P0.2
	for i, x := range needs() {
		for free := range x.blocks {
			if free > 12 && free < x.blocks-12 {
				continue
			}
			d, n := x.build(t, free)
			was, _ := n.Read(d.c, 0, most)
			image, used := n.Bytes(), d.m.Bytes()
			if e := n.Write(d.c, d.m, x.last.at, text(x.last.count, 99)); e != api.ENOSPC {
				t.Errorf("%d with %d free: Write = %d", i, free, e)
			}
			wantImage(t, n, image)
			wantFile(t, d, n, was)
			d.c.Drop()
			wantFile(t, d, n, was)
			if !bytes.Equal(d.m.Bytes(), used) {
				t.Errorf("%d with %d free: the map has changed", i, free)
			}
		}
	}
}

func TestTheLeastNumbersAreTaken(t *testing.T) { // P9.2
	d := made(t, 40)
	for _, i := range []int{2, 3, 5, 8, 13, 21} {
		d.m.Set(i)
	}
	n := New()
	mustWrite(t, d, n, 0, text(5*block, 1))
	wantImage(t, n, image(5*block, 1, 4, 6, 7, 9))
	d.m.Give(3)
	mustWrite(t, d, n, 6*block, text(2*block, 1))
	wantImage(t, n, image(8*block, 1, 4, 6, 7, 9, 0, 3, 10))
}

func TestZeroIsNeverTaken(t *testing.T) { // P9.3
	d := made(t, 20)
	for _, free := range [][]int{{0}, {0, 5}, {0, 1, 2, 3, 4, 5, 6, 7, 8, 9, 10, 11, 12}} {
		d.m = usedBelow(t, 20, 20)
		for _, i := range free {
			d.m.Give(i)
		}
		n := New()
		e := n.Write(d.c, d.m, 0, text((len(free)-1)*block+1, 1))
		if e != api.ENOSPC || d.m.Free() != len(free) || n.Size() != 0 {
			t.Errorf("of %d free numbers, 0 among them: Write = %d, %d are free", len(free), e, d.m.Free())
		}
		for i := range len(free) - 1 {
			mustWrite(t, d, n, i*block%single, []byte{1})
		}
		if d.m.Used(0) || slices.Contains(n.numbers[:min(len(free)-1, 8)], 0) {
			t.Errorf("of %d free numbers: 0 is taken: %v", len(free), n.numbers)
		}
		mustTruncate(t, d, n, 0)
		if d.m.Used(0) || d.m.Free() != len(free) {
			t.Errorf("of %d free numbers: %d are free again", len(free), d.m.Free())
		}
	}
}

func TestNoMapIsNoNumbers(t *testing.T) { // P9.2, P0.1
	d := made(t, 8)
	n := written(t, d, text(block, 1))
	for _, m := range []*bitmap.Map{nil, bitmap.New(0), usedBelow(t, 1, 1)} {
		if e := n.Write(d.c, m, 3, []byte{7, 7}); e != api.OK {
			t.Errorf("Write to a block that is there = %d", e)
		}
		if e := n.Write(d.c, m, block-1, []byte{7, 7}); e != api.ENOSPC {
			t.Errorf("Write to one more block = %d", e)
		}
		wantFile(t, d, n, over(text(block, 1), 3, []byte{7, 7}))
	}
}

func TestTheCallersBytes(t *testing.T) { // P0.3
	d := made(t, 140)
	all := append(make([]byte, 0, most+100), text(most, 1)...)
	spoil(all[len(all):], 0x5a)
	was := slices.Clone(all[:cap(all)])
	n := written(t, d, all)
	if !bytes.Equal(all[:cap(all)], was) {
		t.Error("Write has changed what it was handed")
	}
	spoil(all, 0xaa)
	wantFile(t, d, n, text(most, 1))
	first, _ := n.Read(d.c, 0, most)
	second, _ := n.Read(d.c, 0, most)
	spoil(first, 0xbb)
	if !bytes.Equal(second, text(most, 1)) {
		t.Error("two Reads share memory")
	}
	wantFile(t, d, n, text(most, 1))

	one, two := n.Bytes(), n.Bytes()
	spoil(one, 0xcc)
	if !bytes.Equal(two, n.Bytes()) {
		t.Error("two Bytes share memory")
	}
	wantFile(t, d, n, text(most, 1))
	l := mustLoad(t, two)
	spoil(two, 0xdd)
	wantFile(t, d, l, text(most, 1))
}

func spoil(b []byte, v byte) {
	b = b[:cap(b)]
	for i := range b {
		b[i] = v
	}
}

func TestTwoFilesKnowNothingOfEachOther(t *testing.T) { // P0.5
	d := made(t, 280)
	a, b := New(), New()
	for k := range 64 {
		mustWrite(t, d, a, 2*k*block, text(700, k))
		mustWrite(t, d, b, 2*k*block+300, text(600, k+100))
	}
	wantA, _ := a.Read(d.c, 0, most)
	mustTruncate(t, d, b, 0)
	wantFile(t, d, a, wantA)
	mustWrite(t, d, b, 0, text(most, 5))
	wantFile(t, d, a, wantA)
	wantFile(t, d, b, text(most, 5))
	mustTruncate(t, d, a, 0)
	wantFile(t, d, b, text(most, 5))
	wantTaken(t, d, 131)
}

func TestWhatWasWrittenIsInTheVolumeBehindACommit(t *testing.T) { // P9.2
	d := made(t, 140)
	n := written(t, d, text(most, 4))
	mustCommit(t, d)
	d.c = bcache.New(d.v, 1)
	wantFile(t, d, mustLoad(t, n.Bytes()), text(most, 4))
}
