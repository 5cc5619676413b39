package localfs

import (
	"bytes"
	"slices"

	"lagoon/api"
	"lagoon/inode"
)

// What an inode and its blocks of numbers say: doc/09-inode.md.
const (
	numberSize = 4
	directs    = 8
	fanOut     = 64
)

// trail follows the numbers of an inode, in the order of the file's blocks.
type trail struct {
	*FS
	size  int // of the inode
	place int // of the file's block to which the next number leads, or of the first one of those
}

// numbersIn gives the numbers that stand in b one behind the other.
func numbersIn(b []byte) []int {
	var out []int
	for piece := range slices.Chunk(b, numberSize) {
		n := 0
		for i, x := range piece {
			n |= int(x) << (8 * i)
		}
		out = append(out, n)
	}
	return out
}

// over takes all blocks of the inode; false, if one is not free, or holds what does not belong there.
func (t *trail) over(part *inode.Inode) bool {
	numbers := numbersIn(part.Bytes())[1:] // the size stands ahead of them
	single, double := directs, directs+1
	return all(numbers[:single], t.direct) && all(numbers[single:double], t.single) && all(numbers[double:], t.double)
}

// all asks for each number, until the answer is no.
func all(numbers []int, ask func(number int) bool) bool {
	return !slices.ContainsFunc(numbers, func(number int) bool { return !ask(number) })
}

func (t *trail) double(number int) bool { return t.through(number, fanOut*fanOut, t.single) }

func (t *trail) single(number int) bool { return t.through(number, fanOut, t.direct) }

// through follows a number that leads to span of the file's blocks, by way of the numbers in its own block.
func (t *trail) through(number, span int, next func(number int) bool) bool {
	if number == 0 {
		t.place += span
		return true
	}
	if !t.take(number) {
		return false
	}
	numbers := numbersIn(t.read(number))
	return all(numbers[fanOut:], isNone) && all(numbers[:fanOut], next)
}

func isNone(number int) bool { return number == 0 }

// direct follows the number of one of the file's blocks. Behind the file's end zeros must stand there, for a file grows without a look at them.
func (t *trail) direct(number int) bool {
	stay := t.size - t.place*api.Block
	t.place++
	if number == 0 {
		return true
	}
	if stay <= 0 || !t.take(number) {
		return false
	}
	return stay >= api.Block || isZeros(t.read(number)[stay:])
}

func isZeros(b []byte) bool { return len(bytes.Trim(b, "\x00")) == 0 }

// take takes the block of that number, which must be free yet.
func (t *trail) take(number int) bool { return t.free.Set(number) == api.OK }

// read gives a block that was taken. No error: it is one of the volume's, and the cache has room, for nothing is pinned.
func (t *trail) read(number int) []byte {
	b, _ := t.cache.Get(number)
	return b
}
