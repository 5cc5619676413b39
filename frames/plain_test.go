package frames

import (
	"bytes"
	"slices"
	"testing"

	"lagoon/api"
	"lagoon/ops"
)

const great = 1152921504606846976 // 2^60

// What follows are the chapter's Words, and those of doc/02, doc/03, doc/04 and doc/12, written down plainly, to hold the package against.

func plainEnd(v api.Vector) api.Vector {
	for len(v) > 0 && v[len(v)-1] == 0 {
		v = v[:len(v)-1]
	}
	return v
}

func plainMay(f api.Frame) bool {
	if f.Kind != 1 && f.Kind != 2 && f.Kind != 3 && f.Kind != 4 {
		return false
	}
	if f.From < 0 || f.From > 63 || f.To < 0 || f.To > 63 || f.From == f.To {
		return false
	}
	if f.Session < 1 || f.Session > great || f.Seq < 0 || f.Seq > 1073741824 {
		return false
	}
	if len(plainEnd(f.Vec)) > 64 {
		return false
	}
	for _, n := range plainEnd(f.Vec) {
		if n < 0 || n > great {
			return false
		}
	}
	if len(f.Ops) > 8 || len(f.Ops) > 0 && f.Kind != 3 || f.Last && f.Kind != 3 {
		return false
	}
	for _, o := range f.Ops {
		if !ops.May(o) {
			return false
		}
	}
	return f.Seq == 0 || f.Kind == 3 || f.Kind == 4
}

func plainNum(n int64) []byte {
	if n < 128 {
		return []byte{byte(n)}
	}
	return append([]byte{byte(n%128 + 128)}, plainNum(n/128)...)
}

func plainTruth(v bool) []byte {
	if v {
		return []byte{1}
	}
	return []byte{0}
}

func plainID(id api.ID) []byte {
	return append(plainNum(id.Time), plainNum(int64(id.Node))...)
}

func plainBytes(b []byte) []byte {
	return append(plainNum(int64(len(b))), b...)
}

func plainVector(v api.Vector) []byte {
	b := plainNum(int64(len(v)))
	for _, n := range v {
		b = append(b, plainNum(n)...)
	}
	return b
}

func plainOp(o api.Op) []byte {
	return bytes.Join([][]byte{
		plainNum(int64(o.Kind)), plainID(o.Stamp), plainNum(o.Seq), plainID(o.Obj), plainID(o.Parent),
		plainBytes([]byte(o.Name)), plainBytes(o.Data), plainVector(plainEnd(o.Seen)),
	}, nil)
}

// The places of a frame's fields in what plainFields gives; each operation has a place of its own from atOps on.
const (
	atKind = iota
	atFrom
	atTo
	atSession
	atSeq
	atLast
	atVec
	atCount
	atOps
)

// plainFields writes the fields of a frame, each by itself.
func plainFields(f api.Frame) [][]byte {
	fields := [][]byte{
		plainNum(int64(f.Kind)), plainNum(int64(f.From)), plainNum(int64(f.To)), plainNum(f.Session), plainNum(int64(f.Seq)),
		plainTruth(f.Last), plainVector(plainEnd(f.Vec)), plainNum(int64(len(f.Ops))),
	}
	for _, o := range f.Ops {
		fields = append(fields, plainBytes(plainOp(o)))
	}
	return fields
}

// plainCRC is the sum as doc/02 words it, bit by bit, in the mirror.
func plainCRC(b []byte) uint32 {
	register := ^uint32(0)
	for _, x := range b {
		register ^= uint32(x)
		for range 8 {
			low := register & 1
			register >>= 1
			if low == 1 {
				register ^= 0xedb88320
			}
		}
	}
	return ^register
}

// wired gives the parts behind their length and their CRC, right ones.
func wired(parts ...[]byte) []byte {
	held := bytes.Join(parts, nil)
	b := make([]byte, 8, 8+len(held))
	for i := range 4 {
		b[i] = byte(len(held) >> (8 * i))
		b[4+i] = byte(plainCRC(held) >> (8 * i))
	}
	return append(b, held...)
}

func plainFrame(f api.Frame) []byte {
	return wired(plainFields(f)...)
}

// hasNegative tells whether a field is a number that plainFrame could not write.
func hasNegative(f api.Frame) bool {
	numbers := append([]int64{int64(f.Kind), int64(f.From), int64(f.To), f.Session, int64(f.Seq)}, f.Vec...)
	for _, o := range f.Ops {
		numbers = append(numbers, int64(o.Kind), o.Stamp.Time, int64(o.Stamp.Node), o.Seq, o.Obj.Time, int64(o.Obj.Node), o.Parent.Time, int64(o.Parent.Node))
		numbers = append(numbers, o.Seen...)
	}
	return slices.Min(numbers) < 0
}

// loose reads more than doc/03 allows: whether the bytes are right is told by writing again what it read.
type loose struct {
	left []byte
	bad  bool
}

func (l *loose) num() int64 {
	n := uint64(0)
	for i, x := range l.left {
		if i < 10 {
			n |= uint64(x&127) << (7 * i)
		}
		if x < 128 {
			l.left = l.left[i+1:]
			return int64(n)
		}
	}
	l.left, l.bad = nil, true
	return 0
}

func (l *loose) id() api.ID {
	time := l.num()
	return api.ID{Time: time, Node: int(l.num())}
}

func (l *loose) run() []byte {
	n := l.num()
	if n < 0 || n > int64(len(l.left)) {
		l.left, l.bad = nil, true
		return nil
	}
	b := l.left[:n]
	l.left = l.left[n:]
	return b
}

func (l *loose) vector() api.Vector {
	var v api.Vector
	for n := l.num(); n > 0 && !l.bad; n-- {
		v = append(v, l.num())
	}
	return v
}

func (l *loose) op() api.Op {
	var o api.Op
	o.Kind, o.Stamp, o.Seq, o.Obj, o.Parent = int(l.num()), l.id(), l.num(), l.id(), l.id()
	o.Name, o.Data, o.Seen = string(l.run()), l.run(), l.vector()
	return o
}

// plainDecode gives the frame that b is, if it is one.
func plainDecode(b []byte) (api.Frame, bool) {
	if len(b) < 8 {
		return api.Frame{}, false
	}
	var f api.Frame
	l := &loose{left: b[8:]}
	f.Kind, f.From, f.To, f.Session, f.Seq = int(l.num()), int(l.num()), int(l.num()), l.num(), int(l.num())
	f.Last, f.Vec = l.num() != 0, l.vector()
	for n := l.num(); n > 0 && !l.bad; n-- {
		held := &loose{left: l.run()}
		f.Ops = append(f.Ops, held.op())
		l.bad = l.bad || held.bad
	}
	if l.bad || !plainMay(f) || !bytes.Equal(plainFrame(f), b) {
		return api.Frame{}, false
	}
	return f, true
}

// same holds all fields against each other: vectors as they stand, number by number.
func same(a, b api.Frame) bool {
	return a.Kind == b.Kind && a.From == b.From && a.To == b.To && a.Session == b.Session && a.Seq == b.Seq && a.Last == b.Last &&
		slices.Equal(a.Vec, b.Vec) && slices.EqualFunc(a.Ops, b.Ops, sameOp)
}

func sameOp(a, b api.Op) bool {
	return a.Stamp == b.Stamp && a.Seq == b.Seq && a.Kind == b.Kind && a.Obj == b.Obj && a.Parent == b.Parent && a.Name == b.Name &&
		bytes.Equal(a.Data, b.Data) && slices.Equal(a.Seen, b.Seen)
}

// normal gives f with its vectors in normal form.
func normal(f api.Frame) api.Frame {
	f.Vec, f.Ops = plainEnd(f.Vec), slices.Clone(f.Ops)
	for i := range f.Ops {
		f.Ops[i].Seen = plainEnd(f.Ops[i].Seen)
	}
	return f
}

// kinds has each kind that there is.
func kinds() []int {
	return []int{api.FHello, api.FAnswer, api.FOps, api.FAck}
}

// sampleOp gives an operation of the kind in which each field that may have a value has one.
func sampleOp(kind int) api.Op {
	o := api.Op{Stamp: api.ID{Time: 500, Node: 3}, Seq: 7, Kind: kind, Obj: api.ID{Time: 400, Node: 60}, Parent: api.ID{Time: 300, Node: 2}, Name: "ab", Seen: api.Vector{2, 0, 300, 6, 1}}
	switch kind {
	case api.KDir, api.KFile:
		o.Obj = o.Stamp
	case api.KWrite:
		o.Parent, o.Name, o.Data = api.ID{}, "", []byte("text")
	}
	return o
}

// sampleOps gives n operations, of each kind in turn.
func sampleOps(n int) []api.Op {
	all := []api.Op{}
	for i := range n {
		o := sampleOp(i%4 + 1)
		o.Seen[4] = int64(i + 1)
		all = append(all, o)
	}
	return all
}

// sample gives a frame of the kind in which each field that may have a value has one.
func sample(kind int) api.Frame {
	f := api.Frame{Kind: kind, From: 3, To: 5, Session: 9, Vec: api.Vector{1, 0, 300}}
	switch kind {
	case api.FOps:
		f.Seq, f.Last, f.Ops = 200, true, sampleOps(4)
	case api.FAck:
		f.Seq = 200
	}
	return f
}

// at gives a vector of zeros but for one number.
func at(node int, n int64) api.Vector {
	v := make(api.Vector, node+1)
	v[node] = n
	return v
}

// noise is a row of numbers that hangs on where it begins alone.
type noise uint64

func (n *noise) next() uint64 {
	*n = *n*6364136223846793005 + 1442695040888963407
	return uint64(*n >> 33)
}

func (n *noise) below(most int) int {
	return int(n.next() % uint64(most))
}

// bytes gives so many of them, none above most.
func (n *noise) bytes(size int, most int) []byte {
	b := make([]byte, size)
	for i := range b {
		b[i] = byte(n.below(most + 1))
	}
	return b
}

// wantRefused sees that b is no frame.
func wantRefused(t *testing.T, b []byte, why string) {
	t.Helper()
	if f, e := Decode(b); e != api.EBADMSG || !same(f, api.Frame{}) {
		t.Errorf("Decode of %s, %.60x: %.200v, %d; want zero, %d", why, b, f, e, api.EBADMSG)
	}
}

// wantRead sees that b is the frame, which Decode gives with its vectors in normal form.
func wantRead(t *testing.T, b []byte, want api.Frame, why string) {
	t.Helper()
	if f, e := Decode(b); e != api.OK || !same(f, normal(want)) {
		t.Errorf("Decode of %s, %.60x: %.200v, %d; want %.200v", why, b, f, e, normal(want))
	}
}

// wantDecode sees that Decode says of b what the Words say, and that what it takes is what Encode gives.
func wantDecode(t *testing.T, b []byte) bool {
	t.Helper()
	want, ok := plainDecode(b)
	if !ok {
		wantRefused(t, b, "what may not be")
		return false
	}
	wantRead(t, b, want, "what may be")
	f, _ := Decode(b)
	if again, e := Encode(f); e != api.OK || !bytes.Equal(again, b) {
		t.Errorf("Encode of what Decode gave of %.60x: %.60x, %d", b, again, e)
	}
	return true
}

// wantMay sees that all calls say of f whether it may be.
func wantMay(t *testing.T, f api.Frame, may bool, why string) {
	t.Helper()
	if plainMay(f) != may {
		t.Fatalf("kind %d, %s: the test itself is wrong", f.Kind, why)
	}
	b, e := Encode(f)
	if !may {
		if May(f) || b != nil || e != api.EINVAL {
			t.Errorf("kind %d, %s: May %v, Encode %.60x, %d; want false, none, %d", f.Kind, why, May(f), b, e, api.EINVAL)
		}
		if !hasNegative(f) {
			wantRefused(t, plainFrame(f), why)
		}
		return
	}
	if want := plainFrame(f); !May(f) || e != api.OK || !bytes.Equal(b, want) {
		t.Errorf("kind %d, %s: May %v, Encode %.60x, %d; want true, %.60x", f.Kind, why, May(f), b, e, want)
	}
	wantRead(t, b, f, why)
}
