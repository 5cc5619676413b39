package inode

import (
	"bytes"
	"math"
	"slices"
	"testing"

	"lagoon/api"
	"lagoon/bcache"
	"lagoon/bitmap"
	"lagoon/device"
	"lagoon/wal"
)

const (
	block = api.Block
	most  = api.MaxFile
	// The first bytes behind the direct and behind the single numbers.
	single = 8 * block
	double = 72 * block
)

// disk is a volume with a cache of it and a map of its numbers, of which 0 is used.
type disk struct {
	v *wal.Volume
	c *bcache.Cache
	m *bitmap.Map
}

// made gives a disk of so many blocks, all of them full of what nobody needs any more.
func made(t *testing.T, blocks int) *disk {
	t.Helper()
	d := device.New(8 + 4*blocks)
	if e := wal.Format(d); e != api.OK {
		t.Fatalf("Format = %d", e)
	}
	v, e := wal.Mount(d)
	if e != api.OK || v.Blocks() != blocks {
		t.Fatalf("Mount = %d, %d blocks, want %d", e, v.Blocks(), blocks)
	}
	var puts []api.Put
	for i := range blocks {
		puts = append(puts, api.Put{Block: i, Data: bytes.Repeat([]byte{0xee}, block)})
	}
	if e := v.Commit(puts...); e != api.OK {
		t.Fatalf("Commit = %d", e)
	}
	return &disk{v: v, c: bcache.New(v, 400), m: usedBelow(t, blocks, 1)}
}

// usedBelow gives a map of n numbers of which just those below k are used.
func usedBelow(t *testing.T, n, k int) *bitmap.Map {
	t.Helper()
	m := bitmap.New(n)
	if _, e := m.Run(k); e != api.OK {
		t.Fatalf("Run(%d) of %d numbers = %d", k, n, e)
	}
	return m
}

// text gives n bytes of which none is 0, others for another seed.
func text(n, seed int) []byte {
	b := make([]byte, n)
	for i := range b {
		b[i] = byte(1 + (i*7+i/block*13+seed*31)%255)
	}
	return b
}

func mustWrite(t *testing.T, d *disk, n *Inode, at int, b []byte) {
	t.Helper()
	if e := n.Write(d.c, d.m, at, b); e != api.OK {
		t.Fatalf("Write of %d bytes at %d = %d", len(b), at, e)
	}
}

func mustTruncate(t *testing.T, d *disk, n *Inode, size int) {
	t.Helper()
	if e := n.Truncate(d.c, d.m, size); e != api.OK {
		t.Fatalf("Truncate(%d) = %d", size, e)
	}
}

func mustCommit(t *testing.T, d *disk) {
	t.Helper()
	if e := d.c.Commit(); e != api.OK {
		t.Fatalf("Commit = %d", e)
	}
}

func mustLoad(t *testing.T, b []byte) *Inode {
	t.Helper()
	n, e := Load(b)
	if e != api.OK || n == nil {
		t.Fatalf("Load(%x) = %v, %d", b, n, e)
	}
	return n
}

// written gives a new file of these bytes.
func written(t *testing.T, d *disk, b []byte) *Inode {
	t.Helper()
	n := New()
	mustWrite(t, d, n, 0, b)
	return n
}

// wantRead holds what Read gives against the bytes.
func wantRead(t *testing.T, d *disk, n *Inode, at, count int, want []byte) {
	t.Helper()
	if b, e := n.Read(d.c, at, count); e != api.OK || !bytes.Equal(b, want) {
		t.Errorf("Read(%d, %d) of a file of %d bytes = %d bytes, %d; want %d bytes; the first other one at %d", at, count, n.Size(), len(b), e, len(want), firstOther(b, want))
	}
}

func firstOther(a, b []byte) int {
	for i := range min(len(a), len(b)) {
		if a[i] != b[i] {
			return i
		}
	}
	return min(len(a), len(b))
}

// wantFile holds the file's size and all of its bytes against want.
func wantFile(t *testing.T, d *disk, n *Inode, want []byte) {
	t.Helper()
	if n.Size() != len(want) {
		t.Errorf("Size = %d, want %d", n.Size(), len(want))
	}
	wantRead(t, d, n, 0, most+1, want)
}

// wantTaken tells whether so many numbers are taken, 0 not counted.
func wantTaken(t *testing.T, d *disk, want int) {
	t.Helper()
	if got := d.m.Size() - 1 - d.m.Free(); got != want {
		t.Errorf("%d numbers are taken, want %d", got, want)
	}
}

// image gives the bytes of a size and of numbers; those that are not named are 0.
func image(size uint32, list ...uint32) []byte {
	b := words(append([]uint32{size}, list...)...)
	return append(b, make([]byte, 44-len(b))...)
}

func words(list ...uint32) []byte {
	var b []byte
	for _, x := range list {
		b = append(b, byte(x), byte(x>>8), byte(x>>16), byte(x>>24))
	}
	return b
}

func wantImage(t *testing.T, n *Inode, want []byte) {
	t.Helper()
	if b := n.Bytes(); !bytes.Equal(b, want) {
		t.Errorf("Bytes = %x, want %x", b, want)
	}
}

// wantTable holds a block of numbers against the numbers, all that are not named being 0.
func wantTable(t *testing.T, d *disk, number int, list ...uint32) {
	t.Helper()
	want := make([]byte, block)
	copy(want, words(list...))
	if b, e := d.c.Get(number); e != api.OK || !bytes.Equal(b, want) {
		t.Errorf("the block %d of numbers = %x, %d; want %x", number, b, e, want)
	}
}

func TestNewIsAFileOfNoBytes(t *testing.T) { // P9.1
	d := made(t, 4)
	n := New()
	if n == nil {
		t.Fatal("New is nil")
	}
	wantImage(t, n, make([]byte, 44))
	wantFile(t, d, n, nil)
	wantTaken(t, d, 0)
}

func TestBytesOfDirectBlocks(t *testing.T) { // P9.1
	d := made(t, 20)
	n := New()
	mustWrite(t, d, n, 0, text(1, 1))
	wantImage(t, n, []byte{1, 0, 0, 0, 1, 0, 0, 0, 0, 0, 0, 0, 0, 0, 0, 0, 0, 0, 0, 0, 0, 0, 0, 0, 0, 0, 0, 0, 0, 0, 0, 0, 0, 0, 0, 0, 0, 0, 0, 0, 0, 0, 0, 0})
	mustWrite(t, d, n, 1, text(single-1, 1))
	wantImage(t, n, image(single, 1, 2, 3, 4, 5, 6, 7, 8))
	mustTruncate(t, d, n, 0)
	wantImage(t, n, make([]byte, 44))
	mustWrite(t, d, n, 3*block, text(1, 1))
	wantImage(t, n, image(3*block+1, 0, 0, 0, 1))
}

func TestBytesOfSingleAndDoubleBlocks(t *testing.T) { // P9.1, P9.2
	d := made(t, 20)
	n := New()
	mustWrite(t, d, n, single, text(1, 1))
	wantImage(t, n, image(single+1, 0, 0, 0, 0, 0, 0, 0, 0, 1))
	wantTable(t, d, 1, 2)
	mustWrite(t, d, n, double-1, text(1, 2))
	wantImage(t, n, image(double, 0, 0, 0, 0, 0, 0, 0, 0, 1))
	wantTable(t, d, 1, append(append([]uint32{2}, make([]uint32, 62)...), 3)...)
	mustWrite(t, d, n, double+block, text(1, 3))
	wantImage(t, n, image(double+block+1, 0, 0, 0, 0, 0, 0, 0, 0, 1, 4))
	wantTable(t, d, 4, 5)
	wantTable(t, d, 5, 0, 6)
	mustWrite(t, d, n, 0, text(1, 4))
	wantImage(t, n, image(double+block+1, 7, 0, 0, 0, 0, 0, 0, 0, 1, 4))
}

func TestTheLowestByteFirst(t *testing.T) { // P9.1
	d := made(t, 700)
	d.m = usedBelow(t, 700, 0x0102)
	n := New()
	mustWrite(t, d, n, 0, text(1, 1))
	mustWrite(t, d, n, double+0x34, text(1, 1))
	b := n.Bytes()
	if !bytes.Equal(b[:8], []byte{0x35, 0x90, 0, 0, 2, 1, 0, 0}) || !bytes.Equal(b[36:], []byte{0, 0, 0, 0, 3, 1, 0, 0}) {
		t.Errorf("Bytes = %x", b)
	}
	wantTable(t, d, 0x0103, 0x0104)
	wantTable(t, d, 0x0104, 0x0105)
	for _, i := range []int{0x0102, 0x0103, 0x0104, 0x0105} {
		if !d.m.Used(i) {
			t.Errorf("%d is not taken", i)
		}
	}
	all := image(0x00010000, 0x04030201, 0xffffffff, 0x80000000, 0x7fffffff, 1, 0x0100, 0x010000, 0x01000000, 0xfffefdfc, 0xa0b0c0d0)
	wantImage(t, mustLoad(t, all), all)
}

func TestLoadAnswersAsTheInodeDid(t *testing.T) { // P9.1
	for _, size := range []int{0, 1, block, single, single + 1, double, double + 1, most} {
		d := made(t, 300)
		n := New()
		want := text(size, 3)
		mustWrite(t, d, n, 0, want)
		l := mustLoad(t, n.Bytes())
		wantFile(t, d, l, want)
		wantImage(t, l, n.Bytes())
		mustWrite(t, d, l, size/2, text(size/4, 5))
		copy(want[size/2:], text(size/4, 5))
		wantFile(t, d, l, want)
		mustTruncate(t, d, l, size/3)
		wantFile(t, d, l, want[:size/3])
		mustTruncate(t, d, l, 0)
		wantTaken(t, d, 0)
	}
}

func TestLoadRefuses(t *testing.T) { // P9.1, P0.2, P0.4
	good := New().Bytes()
	bad := [][]byte{nil, {}, {0}, good[:4], good[:43], append(slices.Clone(good), 0), make([]byte, 88), make([]byte, 1<<17)}
	for _, size := range []uint32{65537, 65536 + 256, 1 << 17, 1 << 24, 1<<24 + 1, 1 << 31, math.MaxUint32} {
		bad = append(bad, image(size), image(size, 1, 2, 3))
	}
	bad = append(bad, image(most)[:43], append(image(most), 0))
	for _, b := range bad {
		if n, e := Load(b); n != nil || e != api.EBADMSG {
			t.Errorf("Load of %d bytes = %v, %d", len(b), n, e)
		}
	}
	for _, size := range []uint32{0, 1, 65535, 65536} {
		if n := mustLoad(t, image(size)); n.Size() != int(size) {
			t.Errorf("Size = %d, want %d", n.Size(), size)
		}
	}
}

func TestLoadOfAFileOfHoles(t *testing.T) { // P9.1, P9.2
	d := made(t, 4)
	n := mustLoad(t, image(most))
	wantFile(t, d, n, make([]byte, most))
	mustTruncate(t, d, n, 77)
	wantFile(t, d, n, make([]byte, 77))
	wantTaken(t, d, 0)
}

func TestCost(t *testing.T) { // P9.1, P0.1
	for _, x := range []struct{ size, want int }{
		{math.MinInt, 0}, {-512, 0}, {-1, 0}, {0, 0}, {1, 1}, {511, 1}, {512, 1}, {513, 2},
		{7 * block, 7}, {7*block + 1, 8}, {8 * block, 8}, {8*block + 1, 10}, {9 * block, 10}, {9*block + 1, 11},
		{71*block + 1, 73}, {72 * block, 73}, {72*block + 1, 76}, {73 * block, 76}, {73*block + 1, 77},
		{127 * block, 130}, {127*block + 1, 131}, {65535, 131}, {65536, 131}, {65537, 0}, {65536 + block, 0}, {1 << 32, 0}, {math.MaxInt, 0},
	} {
		if got := Cost(x.size); got != x.want {
			t.Errorf("Cost(%d) = %d, want %d", x.size, got, x.want)
		}
	}
}

func TestCostIsWhatAFileWithoutHolesTakes(t *testing.T) { // P9.1, P9.2
	for blocks := 1; blocks <= 128; blocks++ {
		for _, size := range []int{blocks*block - block + 1, blocks * block} {
			d := made(t, 140)
			n := written(t, d, text(size, blocks))
			wantTaken(t, d, Cost(size))
			wantFile(t, d, n, text(size, blocks))
		}
	}
}

func TestNilInode(t *testing.T) { // P9.3, P0.1, P0.2
	d := made(t, 8)
	var n *Inode
	if n.Size() != 0 || len(n.Bytes()) != 0 {
		t.Errorf("Size, Bytes = %d, %x", n.Size(), n.Bytes())
	}
	for _, at := range []int{math.MinInt, -1, 0, 5, most, most + 1, math.MaxInt} {
		if b, e := n.Read(d.c, at, 3); len(b) != 0 || e != api.EINVAL {
			t.Errorf("Read(%d) = %x, %d", at, b, e)
		}
		for _, b := range [][]byte{nil, {}, {1}, make([]byte, most+1)} {
			if e := n.Write(d.c, d.m, at, b); e != api.EINVAL {
				t.Errorf("Write(%d) of %d bytes = %d", at, len(b), e)
			}
		}
		if e := n.Truncate(d.c, d.m, at); e != api.EINVAL {
			t.Errorf("Truncate(%d) = %d", at, e)
		}
	}
	if b, e := n.Read(nil, 0, 0); len(b) != 0 || e != api.EINVAL || n.Write(nil, nil, 0, nil) != api.EINVAL || n.Truncate(nil, nil, 0) != api.EINVAL {
		t.Errorf("without a cache and a map: Read = %x, %d", b, e)
	}
	wantTaken(t, d, 0)
}
