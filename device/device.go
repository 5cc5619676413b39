// Package device is a device of blocks with a cache that forgets: what was written since the last Flush may be lost in a crash, block by block.
package device

import (
	"maps"
	"slices"

	"lagoon/api"
)

// block is never changed once a device holds it: so a crashed device may go on with the blocks of the old one.
type block [api.Block]byte

// Device is a device of blocks. A nil one has no blocks and is dead.
type Device struct {
	blocks  []*block       // as written last; nil stands for zeros, so that a device costs what was written to it
	flushed map[int]*block // of the loose blocks alone: as they were at the last Flush
	fused   bool
	left    int // of a fuse: how many Writes and Flushes it still lets through
	count   int
}

// New makes a device of so many blocks of zeros; nil, if there can't be so many.
func New(blocks int) *Device {
	if blocks < 1 || blocks > api.MaxBlocks {
		return nil
	}
	return hold(make([]*block, blocks))
}

func hold(blocks []*block) *Device {
	return &Device{blocks: blocks, flushed: map[int]*block{}}
}

// Blocks tells how many blocks there are.
func (d *Device) Blocks() int {
	if d == nil {
		return 0
	}
	return len(d.blocks)
}

func (d *Device) has(i int) bool {
	return i >= 0 && i < d.Blocks()
}

// Read gives block i as it was written last, also of a device that is dead.
func (d *Device) Read(i int) ([]byte, api.Errno) {
	if !d.has(i) {
		return nil, api.EINVAL
	}
	b := make([]byte, api.Block)
	if held := d.blocks[i]; held != nil {
		copy(b, held[:])
	}
	return b, api.OK
}

// Write makes b the block i; it is loose until the next Flush.
func (d *Device) Write(i int, b []byte) api.Errno {
	if d.Dead() {
		return api.EIO
	}
	if !d.has(i) || len(b) != api.Block {
		return api.EINVAL
	}
	// A block that is loose already keeps its older state: that alone was flushed.
	if _, loose := d.flushed[i]; !loose {
		d.flushed[i] = d.blocks[i]
	}
	written := new(block)
	copy(written[:], b)
	d.blocks[i] = written
	d.done()
	return api.OK
}

// Flush makes all loose blocks fast.
func (d *Device) Flush() api.Errno {
	if d.Dead() {
		return api.EIO
	}
	// A new map, for clearing one costs by the most that it ever held.
	d.flushed = map[int]*block{}
	d.done()
	return api.OK
}

func (d *Device) done() {
	d.count++
	if d.fused {
		d.left--
	}
}

// Fuse lets n further Writes and Flushes be done, in the place of what an earlier fuse has left; then the device is dead.
func (d *Device) Fuse(n int) {
	if d.Dead() {
		return
	}
	d.fused, d.left = true, n
}

// Dead tells whether the fuse has burnt.
func (d *Device) Dead() bool {
	return d == nil || d.fused && d.left < 1
}

// Count tells how many Writes and Flushes were done.
func (d *Device) Count() int {
	if d == nil {
		return 0
	}
	return d.count
}

// Loose gives the numbers of the blocks that were written since the last Flush, rising.
func (d *Device) Loose() []int {
	if d == nil {
		return nil
	}
	return slices.Sorted(maps.Keys(d.flushed))
}

// Crash gives the device that is found behind a crash: of the loose blocks those that keep names are as written last, the others as flushed last.
func (d *Device) Crash(keep func(i int) bool) *Device {
	if d == nil {
		return nil
	}
	// All that is needed of d is taken ahead of asking keep, which might call d.
	found, flushed, loose := hold(slices.Clone(d.blocks)), d.flushed, d.Loose()
	for _, i := range loose {
		if !kept(keep, i) {
			found.blocks[i] = flushed[i]
		}
	}
	return found
}

// kept asks keep; one that panics has not said true.
func kept(keep func(i int) bool, i int) (yes bool) {
	if keep == nil {
		return false
	}
	defer func() { _ = recover() }()
	return keep(i)
}
