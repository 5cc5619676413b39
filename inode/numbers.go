package inode

import "lagoon/api"

const (
	numberSize = 4
	directs    = 8  // numbers of an inode that are those of the file's first blocks
	fanOut     = 64 // numbers in a block of numbers
	inodeSize  = numberSize * (1 + directs + 2)
)

// Places in the file, block by block: where those behind the single and the double number begin, and where all end that numbers can lead to.
const (
	singleFirst = directs
	doubleFirst = singleFirst + fanOut
	reach       = doubleFirst + fanOut*fanOut
)

// numbers are those of an inode: the direct ones, the single and the double one.
type numbers [directs + 2]uint32

// table is what a block of numbers says.
type table [fanOut]uint32

func tableOf(block []byte) table {
	var t table
	for i := range t {
		t[i] = numberAt(block, i)
	}
	return t
}

func (t table) block() []byte {
	b := make([]byte, api.Block)
	for i, number := range t {
		setNumberAt(b, i, number)
	}
	return b
}

func numberAt(b []byte, i int) uint32 {
	n := uint32(0)
	for k, x := range b[i*numberSize : (i+1)*numberSize] {
		n |= uint32(x) << (8 * k)
	}
	return n
}

func setNumberAt(b []byte, i int, n uint32) {
	for k := range numberSize {
		b[i*numberSize+k] = byte(n >> (8 * k))
	}
}

// upTo tells how many blocks the first size bytes of a file are.
func upTo(size int) int { return (size + api.Block - 1) / api.Block }
