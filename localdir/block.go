package localdir

import (
	"slices"
	"strings"

	"lagoon/api"
	"lagoon/codec"
)

// room is how many entries a block takes. An entry is at most a byte and 64 of its name, and 5 of its number; ahead of them stand how many blocks there are, in at most 2 bytes, and how many entries, in one.
const room = (api.Block - 3) / (1 + api.MaxName + 5)

// entry is a name with its number.
type entry struct {
	name   string
	number int
}

// block holds entries in the order of their names, at most room of them.
type block []entry

// find gives the place where the name stands, or where it would stand.
func (b block) find(name string) (int, bool) {
	return slices.BinarySearchFunc(b, name, func(e entry, name string) int { return strings.Compare(e.name, name) })
}

// add takes an entry whose name the block has not. If there are too many then, it gives up the one with the greatest name.
func (b *block) add(e entry) (entry, bool) {
	at, _ := b.find(e.name)
	*b = slices.Insert(*b, at, e)
	if len(*b) <= room {
		return entry{}, false
	}
	last := (*b)[room]
	*b = slices.Delete(*b, room, room+1)
	return last, true
}

// image gives the block as bytes, without the zeros that fill it up. It tells of how many blocks it is one, so that some of them alone don't pass for a directory.
func (b block) image(blocks int) []byte {
	w := codec.NewWriter()
	w.Num(int64(blocks))
	w.Num(int64(len(b)))
	for _, e := range b {
		w.Text(e.name)
		w.Num(int64(e.number))
	}
	// No error: names and numbers are such as can be written.
	image, _ := w.Done()
	return image
}

// readBlock hands the names and numbers of a block's image to put, until it refuses one. Bytes that can't be read give no name that put would take.
func readBlock(image []byte, put func(name string, n int) api.Errno) api.Errno {
	r := codec.NewReader(image)
	// How many blocks there are is passed over: Load sees it when it holds all bytes against each other.
	_ = r.Num()
	for range r.Num() {
		name := r.Text()
		if e := put(name, int(r.Num())); e != api.OK {
			return e
		}
	}
	return r.Err()
}
