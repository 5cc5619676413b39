package frames

import (
	"lagoon/api"
	"lagoon/codec"
	"lagoon/ops"
)

// maxDigits is how many bytes the longest number takes.
const maxDigits = 9

// write gives what the frame carries, which may be. Its operations are put behind by hand: the bytes of one with much Data are more than a codec.Writer takes at once.
func write(f api.Frame) []byte {
	w := codec.NewWriter()
	w.Num(int64(f.Kind))
	w.Num(int64(f.From))
	w.Num(int64(f.To))
	w.Num(f.Session)
	w.Num(int64(f.Seq))
	w.Truth(f.Last)
	w.Vector(f.Vec)
	w.Num(int64(len(f.Ops)))
	b, _ := w.Done()
	for _, o := range f.Ops {
		b = withOp(b, o)
	}
	return b
}

// withOp puts the operation's bytes behind b, their length ahead of them.
func withOp(b []byte, o api.Op) []byte {
	written, _ := ops.Encode(o)
	w := codec.NewWriter()
	w.Num(int64(len(written)))
	size, _ := w.Done()
	return append(append(b, size...), written...)
}

// read gives the frame of which b is what it carries; false, if b can't be read so.
func read(b []byte) (api.Frame, bool) {
	var f api.Frame
	r := codec.NewReader(b)
	f.Kind = int(r.Num())
	f.From = int(r.Num())
	f.To = int(r.Num())
	f.Session = r.Num()
	f.Seq = int(r.Num())
	f.Last = r.Truth()
	f.Vec = r.Vector()
	count := r.Num()
	if r.Err() != api.OK {
		return api.Frame{}, false
	}
	all, ok := readOps(b[len(b)-r.Left():], count)
	f.Ops = all
	return f, ok
}

// readOps gives the operations that fill b; false, if there are others than so many.
func readOps(b []byte, count int64) ([]api.Op, bool) {
	var all []api.Op
	for len(b) > 0 {
		o, size := firstOp(b)
		if size == 0 {
			return nil, false
		}
		all = append(all, o)
		b = b[size:]
	}
	return all, int64(len(all)) == count
}

// firstOp gives the operation with which b begins, and how many bytes it takes: 0, if b begins with none.
func firstOp(b []byte) (api.Op, int) {
	front := b[:min(len(b), maxDigits)]
	r := codec.NewReader(front)
	size := r.Num()
	rest := b[len(front)-r.Left():]
	if r.Err() != api.OK || size > int64(len(rest)) {
		return api.Op{}, 0
	}
	o, e := ops.Decode(rest[:size])
	if e != api.OK {
		return api.Op{}, 0
	}
	return o, len(b) - len(rest) + int(size)
}
