package codec

import (
	"bytes"
	"slices"

	"lagoon/api"
)

// Reader reads one behind the other. What cannot be read makes it bad for good; a nil one is bad.
type Reader struct {
	left []byte // none of a bad one: so nothing can be read of it any more
	bad  bool
}

// NewReader makes a reader of b.
func NewReader(b []byte) *Reader {
	return &Reader{left: bytes.Clone(b)}
}

// Num reads a number from 0 to 2^62.
func (r *Reader) Num() int64 {
	return r.number(maxNum)
}

// Bytes reads at most api.MaxFile bytes, behind their length.
func (r *Reader) Bytes() []byte {
	return bytes.Clone(r.run())
}

// Text reads a text as Bytes reads bytes.
func (r *Reader) Text() string {
	return string(r.run())
}

// Truth reads the byte 0 or 1: these bytes are the numbers 0 and 1, and there is no other way to write the two.
func (r *Reader) Truth() bool {
	return r.number(1) == 1
}

// ID reads a stamp.
func (r *Reader) ID() api.ID {
	numbers := r.readEach([]func() int64{r.time, r.node})
	return api.ID{Time: numbers[0], Node: int(numbers[1])}
}

// Vector reads a vector, which has no zero at its end.
func (r *Reader) Vector() api.Vector {
	size := r.number(api.MaxNodes)
	v := api.Vector(r.readEach(slices.Repeat([]func() int64{r.count}, int(size))))
	// So ends also a vector of which a number could not be read.
	if len(v) > 0 && v[len(v)-1] == 0 {
		r.spoil()
		return nil
	}
	return v
}

// Left tells how many bytes are not read yet.
func (r *Reader) Left() int {
	return len(r.rest())
}

// Err tells whether something could not be read.
func (r *Reader) Err() api.Errno {
	if r == nil || r.bad {
		return api.EBADMSG
	}
	return api.OK
}

// Done tells whether all was read, and all of it well.
func (r *Reader) Done() api.Errno {
	if r.Left() > 0 {
		return api.EBADMSG
	}
	return r.Err()
}

func (r *Reader) rest() []byte {
	if r == nil {
		return nil
	}
	return r.left
}

func (r *Reader) spoil() {
	if r != nil {
		*r = Reader{bad: true}
	}
}

func (r *Reader) time() int64 {
	return r.number(api.MaxTime)
}

func (r *Reader) node() int64 {
	return r.number(api.MaxNodes - 1)
}

func (r *Reader) count() int64 {
	return r.number(maxCount)
}

// readEach calls the reads in order and gives what each read: zeros alone, if one of them could not.
func (r *Reader) readEach(reads []func() int64) []int64 {
	numbers := make([]int64, len(reads))
	for i, read := range reads {
		numbers[i] = read()
	}
	if r.Err() != api.OK {
		clear(numbers)
	}
	return numbers
}

// number reads a number; one above most is none that can be read.
func (r *Reader) number(most int64) int64 {
	n, size := firstNumber(r.rest())
	if size == 0 || n > most {
		r.spoil()
		return 0
	}
	r.take(size)
	return n
}

// run reads bytes behind their length, and gives them as the reader holds them.
func (r *Reader) run() []byte {
	return r.take(int(r.number(api.MaxFile)))
}

// take gives the next n bytes as the reader holds them; none, if there are fewer.
func (r *Reader) take(n int) []byte {
	if n > r.Left() {
		r.spoil()
	}
	if r.Err() != api.OK {
		return nil
	}
	taken := r.left[:n]
	r.left = r.left[n:]
	return taken
}

// firstNumber gives the number with which b begins, and how many bytes it takes: 0, if b begins with none.
func firstNumber(b []byte) (int64, int) {
	n := int64(0)
	for i, x := range b[:min(len(b), maxDigits)] {
		n |= int64(x%more) << (digit * i)
		if x >= more {
			continue
		}
		// A zero at the end could have been left out.
		if x == 0 && i > 0 {
			return 0, 0
		}
		return n, i + 1
	}
	return 0, 0
}
