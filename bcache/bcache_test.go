package bcache

import (
	"bytes"
	"math"
	"slices"
	"testing"

	"lagoon/api"
	"lagoon/device"
	"lagoon/wal"
)

func full(v byte) []byte { return bytes.Repeat([]byte{v}, api.Block) }

// made gives a device with a new volume of so many blocks.
func made(t *testing.T, blocks int) (*device.Device, *wal.Volume) {
	t.Helper()
	d := device.New(8 + 4*blocks)
	if e := wal.Format(d); e != api.OK {
		t.Fatalf("Format = %d", e)
	}
	v, e := wal.Mount(d)
	if e != api.OK || v.Blocks() != blocks {
		t.Fatalf("Mount = %d, %d blocks, want %d", e, v.Blocks(), blocks)
	}
	return d, v
}

// cached gives a cache of a volume of ten blocks, of which each is full of 100 and its number.
func cached(t *testing.T, room int) (*device.Device, *wal.Volume, *Cache) {
	t.Helper()
	d, v := made(t, 10)
	for i := range v.Blocks() {
		if e := v.Commit(api.Put{Block: i, Data: full(byte(100 + i))}); e != api.OK {
			t.Fatalf("Commit = %d", e)
		}
	}
	c := New(v, room)
	if c == nil {
		t.Fatalf("New with room %d is nil", room)
	}
	return d, v, c
}

func mustGet(t *testing.T, c *Cache, blocks ...int) {
	t.Helper()
	for _, block := range blocks {
		if b, e := c.Get(block); e != api.OK || len(b) != api.Block {
			t.Fatalf("Get(%d) = %d bytes, %d", block, len(b), e)
		}
	}
}

func mustPin(t *testing.T, c *Cache, blocks ...int) {
	t.Helper()
	for _, block := range blocks {
		if e := c.Pin(block); e != api.OK {
			t.Fatalf("Pin(%d) = %d", block, e)
		}
	}
}

func mustUnpin(t *testing.T, c *Cache, blocks ...int) {
	t.Helper()
	for _, block := range blocks {
		if e := c.Unpin(block); e != api.OK {
			t.Fatalf("Unpin(%d) = %d", block, e)
		}
	}
}

func mustPut(t *testing.T, c *Cache, block int, v byte) {
	t.Helper()
	if e := c.Put(block, full(v)); e != api.OK {
		t.Fatalf("Put(%d) = %d", block, e)
	}
}

func mustCommit(t *testing.T, c *Cache) {
	t.Helper()
	if e := c.Commit(); e != api.OK {
		t.Fatalf("Commit = %d", e)
	}
}

func wantGet(t *testing.T, c *Cache, block int, v byte) {
	t.Helper()
	if b, e := c.Get(block); e != api.OK || !bytes.Equal(b, full(v)) {
		t.Errorf("Get(%d) = %v, %d; want %d", block, b, e, v)
	}
}

func wantRead(t *testing.T, v *wal.Volume, block int, x byte) {
	t.Helper()
	if b, e := v.Read(block); e != api.OK || !bytes.Equal(b, full(x)) {
		t.Errorf("the volume's Read(%d) = %v, %d; want %d", block, b, e, x)
	}
}

// wantHeld holds Held and Has against the numbers, which rise.
func wantHeld(t *testing.T, c *Cache, want ...int) {
	t.Helper()
	if got := c.Held(); !slices.Equal(got, want) {
		t.Errorf("Held = %v, want %v", got, want)
	}
	for block := -1; block <= 10; block++ {
		if c.Has(block) != slices.Contains(want, block) {
			t.Errorf("Has(%d) = %v, want %v", block, c.Has(block), want)
		}
	}
}

func wantCounts(t *testing.T, c *Cache, met, missed, out int) {
	t.Helper()
	if a, b, o := c.Counts(); a != met || b != missed || o != out {
		t.Errorf("Counts = %d, %d, %d; want %d, %d, %d", a, b, o, met, missed, out)
	}
}

// refused is an answer of a call, by the call's name.
type refused struct {
	name string
	got  api.Errno
}

// wantRefused holds each answer against the error.
func wantRefused(t *testing.T, want api.Errno, answers ...refused) {
	t.Helper()
	for _, x := range answers {
		if x.got != want {
			t.Errorf("%s = %d, want %d", x.name, x.got, want)
		}
	}
}

// getError is what Get tells; a list beside an error is a fault.
func getError(t *testing.T, c *Cache, block int) api.Errno {
	t.Helper()
	b, e := c.Get(block)
	if e != api.OK && len(b) != 0 {
		t.Errorf("Get(%d) gives %d bytes beside %d", block, len(b), e)
	}
	return e
}

func TestNew(t *testing.T) { // P7.1
	_, v := made(t, 2)
	for _, room := range []int{math.MinInt, -4096, -1, 0, 4097, 1 << 32, math.MaxInt} {
		if New(v, room) != nil {
			t.Errorf("New with room %d is not nil", room)
		}
	}
	for _, room := range []int{1, 2, 511, 4095, 4096} {
		c := New(v, room)
		if c == nil {
			t.Fatalf("New with room %d is nil", room)
		}
		wantHeld(t, c)
		wantCounts(t, c, 0, 0, 0)
	}
	for _, room := range []int{-1, 0, 1, 4096, 4097} {
		if New(nil, room) != nil {
			t.Errorf("New of a nil volume with room %d is not nil", room)
		}
	}
}

func TestBlocksOutOfTheVolume(t *testing.T) { // P7.1, P0.1, P0.2
	_, v, c := cached(t, 1)
	mustGet(t, c, 3)
	for round := range 2 { // at first with room to make, then with none: EINVAL is named first
		for _, block := range []int{math.MinInt, -11, -1, 10, 11, 4096, 1 << 32, math.MaxInt} {
			wantRefused(t, api.EINVAL, refused{"Get", getError(t, c, block)}, refused{"Pin", c.Pin(block)},
				refused{"Unpin", c.Unpin(block)}, refused{"Put", c.Put(block, full(1))})
			if c.Has(block) {
				t.Errorf("Has(%d)", block)
			}
		}
		wantHeld(t, c, 3)
		wantCounts(t, c, round, 1, 0)
		mustPin(t, c, 3)
	}
	mustCommit(t, c)
	if v.Commits() != 10 {
		t.Errorf("%d commits", v.Commits())
	}
}

func TestFirstAndLastBlock(t *testing.T) { // P7.1
	_, _, c := cached(t, 2)
	for _, block := range []int{0, 9} {
		wantGet(t, c, block, byte(100+block))
		mustPin(t, c, block)
		mustPut(t, c, block, 7)
		wantGet(t, c, block, 7)
		mustUnpin(t, c, block)
	}
	wantHeld(t, c, 0, 9)
	wantCounts(t, c, 4, 2, 0)
}

func TestPutTakesWholeBlocks(t *testing.T) { // P7.1, P0.4
	_, _, c := cached(t, 2)
	mustGet(t, c, 1)
	for _, b := range [][]byte{nil, {}, {1}, full(1)[:511], append(full(1), 1), append(full(1), full(1)...)} {
		wantRefused(t, api.EINVAL, refused{"Put", c.Put(1, b)}, refused{"Put of one that is not held", c.Put(2, b)},
			refused{"Put out of the volume", c.Put(10, b)})
	}
	wantHeld(t, c, 1)
	wantGet(t, c, 1, 101)
	mustPut(t, c, 1, 1)
	mustPut(t, c, 2, 2)
	// With no room left EINVAL is still named first.
	wantRefused(t, api.EINVAL, refused{"Put", c.Put(3, full(1)[:511])})
	wantRefused(t, api.ENOSPC, refused{"Put", c.Put(3, full(1)[:512])})
	wantGet(t, c, 1, 1)
}

func TestGetOfEachKindOfBlock(t *testing.T) { // P7.1, P7.2
	_, _, c := cached(t, 2)
	wantGet(t, c, 4, 104) // as the volume has it
	wantGet(t, c, 4, 104)
	mustPut(t, c, 4, 1)
	wantGet(t, c, 4, 1) // put
	mustPut(t, c, 4, 2)
	wantGet(t, c, 4, 2) // put last
	mustCommit(t, c)
	wantGet(t, c, 4, 2) // committed
	mustPut(t, c, 4, 3)
	c.Drop()
	wantGet(t, c, 4, 2) // dropped
	mustGet(t, c, 5, 6)
	wantHeld(t, c, 5, 6)
	wantGet(t, c, 4, 2) // taken out, and back
	wantHeld(t, c, 4, 6)
	wantGet(t, c, 5, 105)
	wantCounts(t, c, 4, 6, 3)
	mustPut(t, c, 7, 9) // never read
	wantGet(t, c, 7, 9)
	c.Drop()
	wantGet(t, c, 7, 107)
}

func TestHeldBlocksAreKeptInMemory(t *testing.T) { // the chapter's first line
	_, v, c := cached(t, 2)
	mustGet(t, c, 0)
	v.Commit(api.Put{Block: 0, Data: full(1)}, api.Put{Block: 1, Data: full(2)})
	wantGet(t, c, 0, 100)
	wantGet(t, c, 1, 2)
	mustGet(t, c, 2)
	wantGet(t, c, 0, 1)
}

func TestAUseMakesABlockTheLatest(t *testing.T) { // P7.1, Words
	for name, use := range map[string]func(c *Cache){
		"Get":         func(c *Cache) { mustGet(t, c, 0) },
		"Pin":         func(c *Cache) { mustPin(t, c, 0); mustUnpin(t, c, 0) },
		"a later Pin": func(c *Cache) { mustPin(t, c, 1); mustPin(t, c, 0); mustUnpin(t, c, 0, 1); mustGet(t, c, 2) },
		"Put":         func(c *Cache) { mustPut(t, c, 0, 1); mustCommit(t, c) },
	} {
		_, _, c := cached(t, 3)
		mustGet(t, c, 0, 1, 2)
		use(c)
		mustGet(t, c, 3)
		if got := c.Held(); !slices.Equal(got, []int{0, 2, 3}) {
			t.Errorf("%s: held %v", name, got)
		}
	}
}

func TestWhatIsNoUse(t *testing.T) { // P7.1, Words: with an error, and all other calls
	for name, call := range map[string]func(c *Cache){
		"nothing": func(*Cache) {},
		"Put of 511 bytes": func(c *Cache) {
			wantRefused(t, api.EINVAL, refused{"Put", c.Put(0, full(1)[:511])})
		},
		"Unpin of a block that is not pinned": func(c *Cache) {
			wantRefused(t, api.EINVAL, refused{"Unpin", c.Unpin(0)})
		},
		"Has, Held, Counts": func(c *Cache) { c.Has(0); c.Held(); c.Counts() },
		"Commit, Drop":      func(c *Cache) { mustCommit(t, c); c.Drop() },
	} {
		_, _, c := cached(t, 3)
		mustGet(t, c, 0, 1, 2)
		call(c)
		mustGet(t, c, 3)
		if got := c.Held(); !slices.Equal(got, []int{1, 2, 3}) {
			t.Errorf("%s: held %v", name, got)
		}
	}
}

func TestUnpinAndCommitAreNoUses(t *testing.T) { // P7.1, P7.2, Words
	_, _, c := cached(t, 3)
	mustPin(t, c, 0)
	mustGet(t, c, 1, 2)
	mustUnpin(t, c, 0)
	mustGet(t, c, 3)
	wantHeld(t, c, 1, 2, 3)
	mustPut(t, c, 1, 9)
	mustGet(t, c, 2, 3)
	mustCommit(t, c)
	mustGet(t, c, 4)
	wantHeld(t, c, 2, 3, 4)
}

func TestTheLeastLatelyUsedIsTakenOut(t *testing.T) { // P7.1, Words
	_, _, c := cached(t, 4)
	mustGet(t, c, 5, 3, 8, 1, 3, 5)
	for _, step := range []struct {
		in   int
		held []int
	}{{0, []int{0, 1, 3, 5}}, {2, []int{0, 2, 3, 5}}, {9, []int{0, 2, 5, 9}}, {8, []int{0, 2, 8, 9}}} {
		mustGet(t, c, step.in)
		wantHeld(t, c, step.held...)
	}
	wantCounts(t, c, 2, 8, 4)
}

func TestPinnedAndDirtyBlocksAreNotTakenOut(t *testing.T) { // P7.1, Words
	_, _, c := cached(t, 4)
	mustGet(t, c, 0)
	mustPin(t, c, 1)
	mustPut(t, c, 2, 9)
	mustGet(t, c, 3)
	mustGet(t, c, 4) // of 0 and 3 the one is taken out
	wantHeld(t, c, 1, 2, 3, 4)
	mustPin(t, c, 5) // by a Pin
	wantHeld(t, c, 1, 2, 4, 5)
	mustPut(t, c, 6, 9) // by a Put
	wantHeld(t, c, 1, 2, 5, 6)
	wantCounts(t, c, 0, 5, 3)
	wantRefused(t, api.ENOSPC, refused{"Get", getError(t, c, 0)}, refused{"Pin", c.Pin(0)}, refused{"Put", c.Put(0, full(1))})
	wantHeld(t, c, 1, 2, 5, 6)
	wantCounts(t, c, 0, 5, 3)
	// Of what is held all goes on.
	wantGet(t, c, 1, 101)
	wantGet(t, c, 6, 9)
	mustPin(t, c, 2)
	mustPut(t, c, 5, 8)
	wantCounts(t, c, 3, 5, 3)
	mustUnpin(t, c, 1)
	mustGet(t, c, 0)
	wantHeld(t, c, 0, 2, 5, 6)
	wantRefused(t, api.EINVAL, refused{"Unpin of one that was taken out", c.Unpin(1)})
}

func TestRoomThatIsPinnedOrDirtyThroughout(t *testing.T) { // P7.1, Words, P0.2
	for pinned := range 4 {
		_, v, c := cached(t, 3)
		for block := range 3 {
			if block < pinned {
				mustPin(t, c, block)
			} else {
				mustPut(t, c, block, byte(block))
			}
		}
		for range 3 {
			wantRefused(t, api.ENOSPC, refused{"Get", getError(t, c, 9)}, refused{"Pin", c.Pin(9)}, refused{"Put", c.Put(9, full(1))})
			wantRefused(t, api.EINVAL, refused{"Unpin", c.Unpin(9)})
		}
		wantHeld(t, c, 0, 1, 2)
		wantCounts(t, c, 0, pinned, 0)
		before := v.Commits()
		mustCommit(t, c)
		if wrote := v.Commits() - before; wrote != int64(min(1, 3-pinned)) {
			t.Errorf("%d pinned: %d commits", pinned, wrote)
		}
		wantRead(t, v, 9, 109)
		if pinned == 3 {
			wantRefused(t, api.ENOSPC, refused{"Get", getError(t, c, 9)})
			continue
		}
		mustGet(t, c, 9) // the least lately used of those that were dirty made room
		if c.Has(pinned) || len(c.Held()) != 3 {
			t.Errorf("%d pinned: held %v", pinned, c.Held())
		}
	}
}

func TestRoomForOne(t *testing.T) { // P7.1
	_, v, c := cached(t, 1)
	for block := range 10 {
		wantGet(t, c, block, byte(100+block))
		wantHeld(t, c, block)
	}
	mustPut(t, c, 3, 1)
	wantHeld(t, c, 3)
	wantRefused(t, api.ENOSPC, refused{"Get", getError(t, c, 4)})
	mustCommit(t, c)
	mustPin(t, c, 4)
	wantHeld(t, c, 4)
	wantRefused(t, api.ENOSPC, refused{"Put", c.Put(3, full(2))})
	wantRead(t, v, 3, 1)
	wantCounts(t, c, 0, 11, 11)
}

func TestTheGreatestRoom(t *testing.T) { // P7.1
	_, v := made(t, 5000)
	c := New(v, 4096)
	for block := range 4096 {
		mustPut(t, c, block, byte(block))
	}
	if len(c.Held()) != 4096 || c.Put(4096, full(1)) != api.ENOSPC {
		t.Fatalf("%d held", len(c.Held()))
	}
	mustCommit(t, c)
	for block := 4096; block < 5000; block++ {
		mustGet(t, c, block)
		if c.Has(block-4096) || len(c.Held()) != 4096 {
			t.Fatalf("Get(%d): %d held", block, len(c.Held()))
		}
	}
	wantCounts(t, c, 0, 904, 904)
	wantGet(t, c, 3, 3)
	wantGet(t, c, 4095, 255)
}

func TestUnpin(t *testing.T) { // P7.1
	for pins := range 4 {
		_, _, c := cached(t, 1)
		mustGet(t, c, 0)
		for range pins {
			mustPin(t, c, 0)
		}
		for range pins {
			wantRefused(t, api.ENOSPC, refused{"Get", getError(t, c, 1)})
			mustUnpin(t, c, 0)
		}
		wantRefused(t, api.EINVAL, refused{"Unpin of none", c.Unpin(0)}, refused{"once more", c.Unpin(0)},
			refused{"Unpin of one that is not held", c.Unpin(1)})
		wantHeld(t, c, 0)
		mustGet(t, c, 1) // that an Unpin was refused is no debt
		mustPin(t, c, 1)
		wantRefused(t, api.ENOSPC, refused{"Get", getError(t, c, 0)})
		wantCounts(t, c, pins+1, 2, 1)
	}
}

func TestMemoryIsTheCallersOwn(t *testing.T) { // P0.3
	_, v, c := cached(t, 3)
	b := append(make([]byte, 0, 700), full(1)...)
	spare := b[512:700]
	if c.Put(0, b) != api.OK || !bytes.Equal(b, full(1)) || !bytes.Equal(spare, make([]byte, 188)) {
		t.Fatal("Put changed what it was handed")
	}
	fill := func(b []byte) {
		for i := range b[:cap(b)] {
			b[:cap(b)][i] = 77
		}
	}
	fill(b)
	wantGet(t, c, 0, 1)
	for range 3 { // of a block that was put, committed, taken from the volume
		for _, block := range []int{0, 1} {
			before, _ := c.Get(block)
			after, _ := c.Get(block)
			fill(before)
			if again, _ := c.Get(block); !bytes.Equal(again, after) || bytes.Equal(again, before) {
				t.Errorf("block %d: answers share memory", block)
			}
		}
		mustCommit(t, c)
	}
	wantRead(t, v, 0, 1)
	got, _ := v.Read(0)
	fill(got)
	wantGet(t, c, 0, 1)
	held := c.Held()
	for i := range held[:cap(held)] {
		held[:cap(held)][i] = -5
	}
	wantHeld(t, c, 0, 1)
}

func TestTwoCaches(t *testing.T) { // P0.5
	_, v, a := cached(t, 2)
	b := New(v, 2)
	mustPut(t, a, 0, 1)
	mustPin(t, a, 1)
	wantHeld(t, b)
	wantCounts(t, b, 0, 0, 0)
	wantGet(t, b, 0, 100)
	mustPut(t, b, 1, 2)
	wantRefused(t, api.EINVAL, refused{"Unpin", b.Unpin(1)})
	wantGet(t, a, 1, 101)
	b.Drop()
	wantHeld(t, a, 0, 1)
	wantHeld(t, b, 0)
	wantGet(t, a, 0, 1)
	mustCommit(t, b)
	if v.Commits() != 10 {
		t.Errorf("%d commits", v.Commits())
	}
	mustGet(t, b, 2, 3, 4)
	wantHeld(t, a, 0, 1)
	wantCounts(t, a, 2, 1, 0)
	wantCounts(t, b, 0, 4, 2)
	mustCommit(t, a)
	wantGet(t, b, 0, 1) // by way of the volume, for it is not held
	_, _, other := cached(t, 2)
	wantGet(t, other, 0, 100)
}

func TestNilCache(t *testing.T) { // P7.3
	var c *Cache
	for _, block := range []int{math.MinInt, -1, 0, 1, math.MaxInt} {
		wantRefused(t, api.EINVAL, refused{"Get", getError(t, c, block)}, refused{"Pin", c.Pin(block)}, refused{"Unpin", c.Unpin(block)},
			refused{"Put", c.Put(block, full(1))}, refused{"Put of nothing", c.Put(block, nil)}, refused{"Commit", c.Commit()})
		c.Drop()
	}
	wantHeld(t, c)
	wantCounts(t, c, 0, 0, 0)
}

func TestCachesWithoutBlocks(t *testing.T) { // P0.1
	for _, c := range []*Cache{{}, New(new(wal.Volume), 3)} {
		wantRefused(t, api.EINVAL, refused{"Get", getError(t, c, 0)}, refused{"Pin", c.Pin(0)}, refused{"Unpin", c.Unpin(0)}, refused{"Put", c.Put(0, full(1))})
		wantRefused(t, api.EIO, refused{"Commit", c.Commit()})
		c.Drop()
		wantHeld(t, c)
		wantCounts(t, c, 0, 0, 0)
	}
}
