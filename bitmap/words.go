package bitmap

import "math/bits"

const (
	wordBits  = 64
	wordBytes = wordBits / 8
)

// bit gives the bit of number i within its word.
func bit(i int) uint64 { return 1 << (i % wordBits) }

// turn uses the number, if it is free, and else frees it.
func (m *Map) turn(i int) { m.words[i/wordBits] ^= bit(i) }

// tooLong tells whether a bit behind the last number is 1.
func (m *Map) tooLong() bool {
	inLast := m.size % wordBits
	return inLast != 0 && m.words[m.size/wordBits]>>inLast != 0
}

// nextFree gives the least free number that is not below from; the size, if there is none.
func (m *Map) nextFree(from int) int { return m.next(from, ^uint64(0)) }

// nextUsed gives the least used number that is not below from; the size, if there is none.
func (m *Map) nextUsed(from int) int { return m.next(from, 0) }

// next gives the least number that is not below from and whose bit is 1 once the words are turned by flip; the size, if there is none.
// It goes word by word, for most words are all free or all used.
func (m *Map) next(from int, flip uint64) int {
	for m.has(from) {
		if w := (m.words[from/wordBits] ^ flip) >> (from % wordBits); w != 0 {
			// Behind the last number the bits look free.
			return min(from+bits.TrailingZeros64(w), m.size)
		}
		from += wordBits - from%wordBits
	}
	return m.Size()
}

// row gives the least number with which k free ones begin; the size, if there are none. k is above 0.
func (m *Map) row(k int) int {
	for begin := m.nextFree(0); m.has(begin); {
		end := m.nextUsed(begin)
		if end-begin >= k {
			return begin
		}
		begin = m.nextFree(end)
	}
	return m.Size()
}
