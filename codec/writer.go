package codec

import (
	"bytes"
	"slices"

	"lagoon/api"
)

// Writer writes one behind the other. What cannot be written makes it bad for good; a nil one is bad.
type Writer struct {
	written []byte
	bad     bool
}

// NewWriter makes a writer that has written nothing yet.
func NewWriter() *Writer {
	return &Writer{}
}

// Num writes a number from 0 to 2^62.
func (w *Writer) Num(n int64) {
	w.number(n, maxNum)
}

// Bytes writes at most api.MaxFile bytes, behind their length.
func (w *Writer) Bytes(b []byte) {
	w.number(int64(len(b)), api.MaxFile)
	if !w.isBad() {
		w.written = append(w.written, b...)
	}
}

// Text writes a text as Bytes writes its bytes.
func (w *Writer) Text(s string) {
	w.number(int64(len(s)), api.MaxFile)
	if !w.isBad() {
		w.written = append(w.written, s...)
	}
}

// Truth writes the byte 0 or 1.
func (w *Writer) Truth(v bool) {
	if v {
		w.Num(1)
	} else {
		w.Num(0)
	}
}

// ID writes a stamp.
func (w *Writer) ID(id api.ID) {
	numbers := []int64{id.Time, int64(id.Node)}
	writeEach(numbers, []func(int64){w.time, w.node})
}

// Vector writes v without the zeros at its end, behind its length.
func (w *Writer) Vector(v api.Vector) {
	v = withoutEnd(v)
	if len(v) > api.MaxNodes {
		w.spoil()
		return
	}
	w.Num(int64(len(v)))
	writeEach(v, slices.Repeat([]func(int64){w.count}, len(v)))
}

// Done gives all that was written, if nothing made the writer bad.
func (w *Writer) Done() ([]byte, api.Errno) {
	if w.isBad() {
		return nil, api.EINVAL
	}
	return bytes.Clone(w.written), api.OK
}

func (w *Writer) isBad() bool {
	return w == nil || w.bad
}

// spoil makes the writer bad. What it wrote so far nobody will be told, so it is let go.
func (w *Writer) spoil() {
	if w != nil {
		*w = Writer{bad: true}
	}
}

func (w *Writer) time(n int64) {
	w.number(n, api.MaxTime)
}

func (w *Writer) node(n int64) {
	w.number(n, api.MaxNodes-1)
}

func (w *Writer) count(n int64) {
	w.number(n, maxCount)
}

// number writes n; one that is not 0 to most cannot be written.
func (w *Writer) number(n, most int64) {
	if n < 0 || n > most {
		w.spoil()
	}
	if w.isBad() {
		return
	}
	for ; n >= more; n >>= digit {
		w.written = append(w.written, byte(n)|more)
	}
	w.written = append(w.written, byte(n))
}

// writeEach calls the writes in order, each with the number of its place.
func writeEach(numbers []int64, writes []func(int64)) {
	for i, write := range writes {
		write(numbers[i])
	}
}

func withoutEnd(v api.Vector) api.Vector {
	for len(v) > 0 && v[len(v)-1] == 0 {
		v = v[:len(v)-1]
	}
	return v
}
