package ops

import (
	"bytes"
	"testing"

	"lagoon/api"
)

const great = 1152921504606846976 // 2^60

// What follows are the chapter's Words, and those of doc/03, written down plainly, to hold the package against.

func plainValid(id api.ID) bool {
	return id.Time >= 1 && id.Time <= great && id.Node >= 0 && id.Node <= 63
}

func plainLess(a, b api.ID) bool {
	return a.Time < b.Time || a.Time == b.Time && a.Node < b.Node
}

func plainName(s string) api.Errno {
	for i := range len(s) {
		if s[i] == 0 || s[i] == 1 || s[i] == 47 {
			return api.EINVAL
		}
	}
	switch {
	case len(s) == 0, s == ".", s == "..":
		return api.EINVAL
	case len(s) > 64:
		return api.ENAMETOOLONG
	}
	return api.OK
}

func plainSeen(v api.Vector) api.Vector {
	for len(v) > 0 && v[len(v)-1] == 0 {
		v = v[:len(v)-1]
	}
	return v
}

func plainMay(o api.Op) bool {
	seen := plainSeen(o.Seen)
	if !plainValid(o.Stamp) || o.Seq < 1 || o.Seq > great || len(seen) > 64 {
		return false
	}
	own := int64(0)
	for node, n := range seen {
		if n < 0 || n > great {
			return false
		}
		if node == o.Stamp.Node {
			own = n
		}
	}
	if own+1 != o.Seq {
		return false
	}
	root, trash := o.Parent == api.ID{}, o.Parent == api.ID{Node: 1}
	parent := root || plainValid(o.Parent) && plainLess(o.Parent, o.Stamp)
	obj := plainValid(o.Obj) && plainLess(o.Obj, o.Stamp)
	named := plainName(o.Name) == api.OK && len(o.Data) == 0
	switch o.Kind {
	case 1, 2:
		return o.Obj == o.Stamp && parent && named
	case 3:
		return obj && (parent || trash) && named
	case 4:
		return obj && root && len(o.Name) == 0 && len(o.Data) <= 65536
	}
	return false
}

func plainNum(n int64) []byte {
	if n < 128 {
		return []byte{byte(n)}
	}
	return append([]byte{byte(n%128 + 128)}, plainNum(n/128)...)
}

func plainID(id api.ID) []byte {
	return append(plainNum(id.Time), plainNum(int64(id.Node))...)
}

func plainBytes(b []byte) []byte {
	return append(plainNum(int64(len(b))), b...)
}

func plainVector(v api.Vector) []byte {
	b := plainNum(int64(len(v)))
	for _, n := range v {
		b = append(b, plainNum(n)...)
	}
	return b
}

// The places of an operation's fields in what plainFields gives.
const (
	atKind = iota
	atStamp
	atSeq
	atObj
	atParent
	atName
	atData
	atSeen
)

// plainFields writes the fields of an operation, each by itself.
func plainFields(o api.Op) [][]byte {
	return [][]byte{
		plainNum(int64(o.Kind)), plainID(o.Stamp), plainNum(o.Seq), plainID(o.Obj), plainID(o.Parent),
		plainBytes([]byte(o.Name)), plainBytes(o.Data), plainVector(plainSeen(o.Seen)),
	}
}

func plainOp(o api.Op) []byte {
	return bytes.Join(plainFields(o), nil)
}

// hasNegative tells whether a field is a number that plainOp could not write.
func hasNegative(o api.Op) bool {
	numbers := append([]int64{int64(o.Kind), o.Stamp.Time, int64(o.Stamp.Node), o.Seq, o.Obj.Time, int64(o.Obj.Node), o.Parent.Time, int64(o.Parent.Node)}, o.Seen...)
	for _, n := range numbers {
		if n < 0 {
			return true
		}
	}
	return false
}

// loose reads more than doc/03 allows: whether the bytes are right is told by writing again what it read.
type loose struct {
	left []byte
	bad  bool
}

func (l *loose) num() int64 {
	n := uint64(0)
	for i, x := range l.left {
		if i < 10 {
			n |= uint64(x&127) << (7 * i)
		}
		if x < 128 {
			l.left = l.left[i+1:]
			return int64(n)
		}
	}
	l.left, l.bad = nil, true
	return 0
}

func (l *loose) id() api.ID {
	time := l.num()
	return api.ID{Time: time, Node: int(l.num())}
}

func (l *loose) run() []byte {
	n := l.num()
	if n < 0 || n > int64(len(l.left)) {
		l.left, l.bad = nil, true
		return nil
	}
	b := l.left[:n]
	l.left = l.left[n:]
	return b
}

func (l *loose) vector() api.Vector {
	var v api.Vector
	for n := l.num(); n > 0 && !l.bad; n-- {
		v = append(v, l.num())
	}
	return v
}

// plainDecode gives the operation that b is, if it is one.
func plainDecode(b []byte) (api.Op, bool) {
	var o api.Op
	l := &loose{left: b}
	o.Kind, o.Stamp, o.Seq, o.Obj, o.Parent = int(l.num()), l.id(), l.num(), l.id(), l.id()
	o.Name, o.Data, o.Seen = string(l.run()), l.run(), l.vector()
	if l.bad || !plainMay(o) || !bytes.Equal(plainOp(o), b) {
		return api.Op{}, false
	}
	return o, true
}

func plainEq(a, b api.Op) bool {
	return same(a, b) && string(plainVector(plainSeen(a.Seen))) == string(plainVector(plainSeen(b.Seen)))
}

// same holds all fields but Seen against each other.
func same(a, b api.Op) bool {
	return a.Stamp == b.Stamp && a.Seq == b.Seq && a.Kind == b.Kind && a.Obj == b.Obj && a.Parent == b.Parent && a.Name == b.Name && string(a.Data) == string(b.Data)
}

func isZero(o api.Op) bool {
	return same(o, api.Op{}) && len(o.Seen) == 0
}

// kinds has each kind that there is.
func kinds() []int {
	return []int{api.KDir, api.KFile, api.KMove, api.KWrite}
}

// sample gives an operation of the kind in which each field that may have a value has one.
func sample(kind int) api.Op {
	o := api.Op{Stamp: api.ID{Time: 500, Node: 3}, Seq: 7, Kind: kind, Obj: api.ID{Time: 400, Node: 60}, Parent: api.ID{Time: 300, Node: 2}, Name: "ab", Seen: api.Vector{2, 0, 300, 6, 1}}
	switch kind {
	case api.KDir, api.KFile:
		o.Obj = o.Stamp
	case api.KWrite:
		o.Parent, o.Name, o.Data = api.ID{}, "", []byte("text")
	}
	return o
}

// first gives the first operation of its node, with that stamp. What it speaks of was made by the least stamp that there is.
func first(kind int, stamp api.ID) api.Op {
	o := sample(kind)
	o.Stamp, o.Seq, o.Seen = stamp, 1, nil
	o.Obj, o.Parent = api.ID{Time: 1}, api.ID{}
	if kind == api.KDir || kind == api.KFile {
		o.Obj = stamp
	}
	return o
}

// noise gives n bytes that hang on seed alone.
func noise(seed uint64, n int) []byte {
	b := make([]byte, n)
	for i := range b {
		seed = seed*6364136223846793005 + 1442695040888963407
		b[i] = byte(seed >> 56)
	}
	return b
}

// spoil writes over b, spare room too.
func spoil(b []byte) {
	b = b[:cap(b)]
	for i := range b {
		b[i] ^= 0xff
	}
}

func spoilNumbers(v api.Vector) {
	v = v[:cap(v)]
	for i := range v {
		v[i] ^= 0xff
	}
}

// wantRefused sees that b is no operation.
func wantRefused(t *testing.T, b []byte, why string) {
	t.Helper()
	if o, e := Decode(b); e != api.EBADMSG || !isZero(o) {
		t.Errorf("Decode of %s, %.60x: %.200v, %d; want zero, %d", why, b, o, e, api.EBADMSG)
	}
}

// wantRead sees that b is the operation, which Decode gives with Seen in normal form.
func wantRead(t *testing.T, b []byte, want api.Op, why string) {
	t.Helper()
	o, e := Decode(b)
	if e != api.OK || !same(o, want) || string(plainVector(o.Seen)) != string(plainVector(plainSeen(want.Seen))) {
		t.Errorf("Decode of %s, %.60x: %.200v, %d; want %.200v", why, b, o, e, want)
	}
}

// wantMay sees that all calls say of o whether it may be.
func wantMay(t *testing.T, o api.Op, may bool, why string) {
	t.Helper()
	if plainMay(o) != may {
		t.Fatalf("kind %d, %s: the test itself is wrong", o.Kind, why)
	}
	b, e := Encode(o)
	if !may {
		if May(o) || b != nil || e != api.EINVAL || Cost(o) != 0 {
			t.Errorf("kind %d, %s: May %v, Encode %.60x, %d, Cost %d; want false, none, %d, 0", o.Kind, why, May(o), b, e, Cost(o), api.EINVAL)
		}
		if !hasNegative(o) {
			wantRefused(t, plainOp(o), why)
		}
		return
	}
	if want := plainOp(o); !May(o) || e != api.OK || !bytes.Equal(b, want) || Cost(o) != len(want) {
		t.Errorf("kind %d, %s: May %v, Encode %.60x, %d, Cost %d; want true, %.60x, %d", o.Kind, why, May(o), b, e, Cost(o), want, len(want))
	}
	wantRead(t, b, o, why)
}
