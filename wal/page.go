package wal

import (
	"slices"

	"lagoon/api"
	"lagoon/crc"
)

// A record is the number of its puts, then each one's block and data. It is cut into pages; a page is a sealed block that carries the turn of the log ahead of its piece: of one turn each block of the log is written once, so a page of that turn is the one that belongs there, whatever was lost around it.
const (
	numberSize  = 8
	contentSize = api.Block - 8 // a frame's head takes 8 bytes
	bodySize    = contentSize - numberSize
	putSize     = numberSize + api.Block
)

// pagesFor is how many pages a record of so many puts has.
func pagesFor(puts int) int {
	return (numberSize + puts*putSize + bodySize - 1) / bodySize
}

func recordOf(puts []api.Put) []byte {
	b := make([]byte, 0, numberSize+len(puts)*putSize)
	b = appendNumber(b, int64(len(puts)))
	for _, p := range puts {
		b = appendNumber(b, int64(p.Block))
		b = append(b, p.Data...)
	}
	return b
}

// putsOf reads a record that is long enough for the number of puts with which it begins.
func putsOf(record []byte) []api.Put {
	n := int(number(record))
	puts := make([]api.Put, 0, n)
	for one := range slices.Chunk(record[numberSize:numberSize+n*putSize], putSize) {
		puts = append(puts, api.Put{Block: int(number(one)), Data: one[numberSize:]})
	}
	return puts
}

// seal makes a block of at most contentSize bytes.
func seal(content []byte) []byte {
	b := make([]byte, contentSize)
	copy(b, content)
	// So few bytes are never refused.
	block, _ := crc.Frame(b)
	return block
}

// unseal gives what seal was given, and zeros behind it; false, if the block is none that was sealed.
func unseal(block []byte) ([]byte, bool) {
	b, _, e := crc.Unframe(block)
	return b, e == api.OK && len(b) == contentSize
}

func appendNumber(b []byte, n int64) []byte {
	for i := range numberSize {
		b = append(b, byte(n>>(8*i)))
	}
	return b
}

// number reads the number with which b begins.
func number(b []byte) int64 {
	n := int64(0)
	for i, x := range b[:numberSize] {
		n |= int64(x) << (8 * i)
	}
	return n
}
