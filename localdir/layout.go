package localdir

import (
	"slices"

	"lagoon/crc"
)

// Each block keeps, of the entries that seek room in it, those with the least names; the others go on to the next block.
// So an entry stands behind its first block only if all blocks between are full of lesser names, and there is just one way in which given entries lie in given blocks.

// spot is where an entry stands: in which block, and where there.
type spot struct {
	block, at int
}

// blocksFor tells in how many blocks so many names lie: at most one for four names, and enough that a seventh of the room is left.
// They grow and shrink by the half, so that few changes move all names.
func blocksFor(names int) int {
	size := 0
	for next := 1; next <= (names+3)/4; next += (next + 1) / 2 {
		size = next
	}
	return size
}

// first tells in which block a name is sought first. There must be blocks.
func (d *Dir) first(name string) int {
	return int(crc.Of([]byte(name)) % uint32(len(d.blocks)))
}

// next tells in which block is sought behind block i.
func (d *Dir) next(i int) int { return (i + 1) % len(d.blocks) }

// seek gives the spot of the name's entry.
func (d *Dir) seek(name string) (spot, bool) {
	if d.Len() == 0 {
		return spot{}, false
	}
	i := d.first(name)
	for range d.blocks {
		at, ok := d.blocks[i].find(name)
		if ok {
			return spot{block: i, at: at}, true
		}
		// Only a block full of lesser names would have sent it on.
		if at < room {
			break
		}
		i = d.next(i)
	}
	return spot{}, false
}

// place lays down an entry whose name is not there. The blocks must have room for it.
func (d *Dir) place(e entry) {
	i := d.first(e.name)
	for {
		last, over := d.blocks[i].add(e)
		if !over {
			return
		}
		e, i = last, d.next(i)
	}
}

// takeOut takes out the entry at x. Those that went past its block may have done so for want of its place: they are laid down anew.
func (d *Dir) takeOut(x spot) {
	wasFull := len(d.blocks[x.block]) == room
	d.blocks[x.block] = slices.Delete(d.blocks[x.block], x.at, x.at+1)
	if !wasFull {
		return
	}
	for _, e := range d.emptyFrom(d.next(x.block)) {
		d.place(e)
	}
}

// emptyFrom takes out all entries of block i and of the next ones, up to the first one that is not full: no entry has gone past that.
func (d *Dir) emptyFrom(i int) []entry {
	var taken []entry
	for {
		b := d.blocks[i]
		taken = append(taken, b...)
		d.blocks[i] = nil
		if len(b) < room {
			return taken
		}
		i = d.next(i)
	}
}

// fit lays all entries down anew, if their count asks for another number of blocks.
func (d *Dir) fit() {
	size := blocksFor(d.count)
	if size == len(d.blocks) {
		return
	}
	to := &Dir{blocks: make([]block, size)}
	d.walk(to.place)
	d.blocks = to.blocks
}

// walk visits each entry, block by block.
func (d *Dir) walk(visit func(entry)) {
	if d == nil {
		return
	}
	for _, b := range d.blocks {
		for _, e := range b {
			visit(e)
		}
	}
}
