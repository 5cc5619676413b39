package bcache

import (
	"bytes"
	"slices"
	"testing"

	"lagoon/api"
	"lagoon/device"
	"lagoon/wal"
)

// sameDevice tells whether two devices answer alike.
func sameDevice(a, b *device.Device) bool {
	for i := range max(a.Blocks(), b.Blocks()) {
		x, _ := a.Read(i)
		y, _ := b.Read(i)
		if !bytes.Equal(x, y) {
			return false
		}
	}
	return a.Count() == b.Count() && slices.Equal(a.Loose(), b.Loose())
}

func TestCommitOfNothing(t *testing.T) { // P7.2
	d, v, c := cached(t, 3)
	before := d.Count()
	mustCommit(t, c)
	mustPin(t, c, 1)
	mustGet(t, c, 2)
	mustCommit(t, c)
	mustPut(t, c, 3, 1)
	mustCommit(t, c)
	written := d.Count()
	if written == before {
		t.Error("a Commit wrote nothing")
	}
	mustCommit(t, c) // what was committed is not committed again
	mustPut(t, c, 3, 2)
	c.Drop()
	mustCommit(t, c)
	if d.Count() != written || v.Commits() != 11 {
		t.Errorf("%d writes more, %d commits", d.Count()-written, v.Commits())
	}
	wantHeld(t, c, 1, 2)
	wantRead(t, v, 3, 1)
}

func TestCommitIsOneCommitByRisingNumbers(t *testing.T) { // P7.2
	for _, order := range [][]int{{4}, {0, 1, 2}, {9, 0}, {7, 2, 9, 0, 5, 1, 8}, {9, 8, 7, 6, 5, 4, 3, 2, 1, 0}, {3, 1, 3, 2, 1, 3}} {
		d, v, c := cached(t, 10)
		twin, w, _ := cached(t, 10)
		last := map[int]byte{}
		mustGet(t, c, 6, 2) // what is not dirty is not in it
		for k, block := range order {
			mustPut(t, c, block, byte(k))
			last[block] = byte(k)
		}
		var puts []api.Put
		for block := range 10 {
			if x, ok := last[block]; ok {
				puts = append(puts, api.Put{Block: block, Data: full(x)})
			}
			wantRead(t, v, block, byte(100+block)) // nothing reaches the volume ahead of it
		}
		held := c.Held()
		mustCommit(t, c)
		if v.Commits() != 11 || !slices.Equal(c.Held(), held) {
			t.Errorf("%v: %d commits, held %v, want %v", order, v.Commits(), c.Held(), held)
		}
		if w.Commit(puts...) != api.OK || !sameDevice(d, twin) {
			t.Errorf("%v: not the volume's Commit of the blocks by rising numbers", order)
		}
		for block, x := range last {
			wantRead(t, v, block, x)
			wantGet(t, c, block, x)
		}
	}
}

func TestCommittedBlocksAreNotDirty(t *testing.T) { // P7.2
	_, v, c := cached(t, 3)
	mustPut(t, c, 0, 1)
	mustPut(t, c, 1, 2)
	mustPin(t, c, 2)
	mustPut(t, c, 2, 3)
	mustCommit(t, c)
	c.Drop() // finds none
	wantHeld(t, c, 0, 1, 2)
	mustGet(t, c, 3, 4, 5)
	wantHeld(t, c, 2, 4, 5) // a pin stays behind a Commit
	wantCounts(t, c, 0, 4, 3)
	mustUnpin(t, c, 2)
	mustGet(t, c, 6)
	wantHeld(t, c, 4, 5, 6)
	mustPut(t, c, 4, 9)
	mustCommit(t, c)
	wantRead(t, v, 0, 1)
	wantRead(t, v, 4, 9)
	if v.Commits() != 12 {
		t.Errorf("%d commits", v.Commits())
	}
}

// dirtied gives a cache with 5 and 2 dirty, 2 pinned once, and 7 idle: all its room.
func dirtied(t *testing.T) (*device.Device, *wal.Volume, *Cache) {
	t.Helper()
	d, v, c := cached(t, 3)
	mustPut(t, c, 5, 1)
	mustGet(t, c, 7)
	mustPin(t, c, 2)
	mustPut(t, c, 2, 2)
	wantCounts(t, c, 0, 2, 0)
	return d, v, c
}

// wantDirtied holds the cache against what dirtied gives, and tells it from one whose blocks are not dirty any more.
func wantDirtied(t *testing.T, c *Cache) {
	t.Helper()
	wantHeld(t, c, 2, 5, 7)
	wantCounts(t, c, 0, 2, 0)
	wantGet(t, c, 5, 1)
	wantGet(t, c, 2, 2)
	mustGet(t, c, 0)
	wantHeld(t, c, 0, 2, 5)
	mustUnpin(t, c, 2)
	mustPin(t, c, 0)
	wantRefused(t, api.ENOSPC, refused{"Get", getError(t, c, 1)})
	c.Drop()
	wantHeld(t, c, 0)
	wantGet(t, c, 5, 105)
	wantGet(t, c, 2, 102)
	wantCounts(t, c, 3, 5, 1)
}

func TestCommitOnADeadDevice(t *testing.T) { // P7.2
	for fuse := range 50 {
		d, v, c := dirtied(t)
		d.Fuse(fuse)
		e := c.Commit()
		if e == api.OK {
			if fuse == 0 || v.Commits() != 11 {
				t.Errorf("fuse %d: %d commits", fuse, v.Commits())
			}
			return
		}
		wantRefused(t, api.EIO, refused{"Commit", e}, refused{"once more", c.Commit()})
		wantRead(t, v, 5, 105)
		wantDirtied(t, c)
		wantRefused(t, api.EIO, refused{"Commit of nothing", c.Commit()})
		if v.Commits() != 10 {
			t.Errorf("fuse %d: %d commits", fuse, v.Commits())
		}
	}
	t.Error("no Commit was OK")
}

func TestCommitThatTheVolumeRefuses(t *testing.T) { // P7.2
	_, v, c := dirtied(t)
	_, small := made(t, 4) // has no block 5
	c.v = small
	wantRefused(t, api.EINVAL, refused{"Commit", c.Commit()}, refused{"once more", c.Commit()})
	if small.Commits() != 0 {
		t.Errorf("%d commits", small.Commits())
	}
	c.v = v
	wantDirtied(t, c)
	_, v, c = dirtied(t)
	c.v = small
	wantRefused(t, api.EINVAL, refused{"Commit", c.Commit()})
	c.v = v
	mustCommit(t, c)
	wantRead(t, v, 5, 1)
	wantRead(t, v, 2, 2)
	if v.Commits() != 11 {
		t.Errorf("%d commits", v.Commits())
	}
}

func TestDrop(t *testing.T) { // P7.2
	_, v, c := cached(t, 5)
	c.Drop() // of nothing
	mustGet(t, c, 0)
	mustPin(t, c, 1, 1)
	mustPin(t, c, 2, 2)
	mustPut(t, c, 2, 8)
	mustPut(t, c, 3, 9)
	mustPin(t, c, 4)
	mustPut(t, c, 4, 7)
	mustCommit(t, c)
	mustPut(t, c, 2, 6)
	mustPut(t, c, 3, 5)
	c.Drop()
	wantHeld(t, c, 0, 1, 4)
	wantCounts(t, c, 2, 4, 0) // what was dropped was not taken out
	wantRefused(t, api.EINVAL, refused{"Unpin of a pinned one that was dropped", c.Unpin(2)}, refused{"of one that was not pinned", c.Unpin(3)})
	mustCommit(t, c)
	if v.Commits() != 11 {
		t.Errorf("%d commits", v.Commits())
	}
	wantGet(t, c, 2, 8)
	wantGet(t, c, 3, 9)
	wantCounts(t, c, 2, 6, 0)
	mustGet(t, c, 5, 6, 7) // 0, then 2, then 3: pins of a dropped block are gone, the others stay
	wantHeld(t, c, 1, 4, 5, 6, 7)
	mustUnpin(t, c, 1, 1, 4)
	wantRefused(t, api.EINVAL, refused{"Unpin", c.Unpin(1)}, refused{"Unpin", c.Unpin(4)})
	wantGet(t, c, 4, 7)
	c.Drop()
	wantHeld(t, c, 1, 4, 5, 6, 7)
}

func TestDropMakesRoom(t *testing.T) { // P7.2
	_, _, c := cached(t, 3)
	for round := range byte(3) {
		for block := range 3 {
			mustPin(t, c, block)
			mustPut(t, c, block, round)
		}
		wantRefused(t, api.ENOSPC, refused{"Get", getError(t, c, 3)})
		c.Drop()
		wantHeld(t, c)
		mustGet(t, c, 3, 4, 5)
		wantHeld(t, c, 3, 4, 5)
	}
	wantCounts(t, c, 0, 18, 6)
}

func TestCounts(t *testing.T) { // P7.2: each number alone
	_, _, c := cached(t, 2)
	mustGet(t, c, 0)
	wantCounts(t, c, 0, 1, 0)
	mustPin(t, c, 1)
	wantCounts(t, c, 0, 2, 0)
	mustGet(t, c, 0)
	wantCounts(t, c, 1, 2, 0)
	mustPin(t, c, 1)
	wantCounts(t, c, 2, 2, 0)
	mustPut(t, c, 0, 1) // a Put is neither
	wantCounts(t, c, 2, 2, 0)
	mustGet(t, c, 0) // one that is dirty is held
	wantCounts(t, c, 3, 2, 0)
	wantRefused(t, api.ENOSPC, refused{"Get", getError(t, c, 2)}, refused{"Pin", c.Pin(2)})
	wantRefused(t, api.EINVAL, refused{"Get", getError(t, c, -1)}, refused{"Pin", c.Pin(10)})
	wantCounts(t, c, 3, 2, 0)
	mustCommit(t, c)
	wantCounts(t, c, 3, 2, 0)
	mustPut(t, c, 2, 3) // takes 0 out
	wantCounts(t, c, 3, 2, 1)
	mustUnpin(t, c, 1, 1)
	wantCounts(t, c, 3, 2, 1)
	mustPin(t, c, 3) // takes 1 out
	wantCounts(t, c, 3, 3, 2)
	c.Drop()
	wantCounts(t, c, 3, 3, 2)
	mustGet(t, c, 2)
	wantCounts(t, c, 3, 4, 2)
	mustGet(t, c, 4) // takes 2 out
	wantCounts(t, c, 3, 5, 3)
}
