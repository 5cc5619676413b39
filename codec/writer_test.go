package codec

import (
	"bytes"
	"slices"
	"strings"
	"testing"

	"lagoon/api"
)

// writing is something that is asked of a writer.
type writing struct {
	name string
	do   func(w *Writer)
}

func writeNum(n int64) writing {
	return writing{"Num", func(w *Writer) { w.Num(n) }}
}

func writeID(id api.ID) writing {
	return writing{"ID", func(w *Writer) { w.ID(id) }}
}

func writeVector(v api.Vector) writing {
	return writing{"Vector", func(w *Writer) { w.Vector(v) }}
}

func writeBytes(b []byte) writing {
	return writing{"Bytes", func(w *Writer) { w.Bytes(b) }}
}

func writeText(s string) writing {
	return writing{"Text", func(w *Writer) { w.Text(s) }}
}

// goodWritings has each call of a writer, with what can be written.
func goodWritings() []writing {
	return []writing{
		writeNum(0), writeNum(300), writeNum(1 << 62),
		writeBytes(nil), writeBytes([]byte("ab")), writeBytes(make([]byte, 65536)),
		writeText(""), writeText("ab"), writeText(strings.Repeat("a", 65536)),
		{"Truth", func(w *Writer) { w.Truth(false) }}, {"Truth", func(w *Writer) { w.Truth(true) }},
		writeID(api.ID{}), writeID(api.ID{Time: 1 << 60, Node: 63}),
		writeVector(nil), writeVector(api.Vector{1, 0, 2, 0}), writeVector(ones(64)),
	}
}

// badWritings has each call of a writer that can make it bad, with all that cannot be written.
func badWritings() []writing {
	var bad []writing
	for _, n := range badNums() {
		bad = append(bad, writeNum(n))
	}
	for _, size := range []int{65537, 65538, 131072, 1 << 20} {
		bad = append(bad, writeBytes(make([]byte, size)), writeText(strings.Repeat("a", size)))
	}
	for _, id := range badIDs() {
		bad = append(bad, writeID(id))
	}
	for _, v := range badVectors() {
		bad = append(bad, writeVector(v))
	}
	return bad
}

func wantWritten(t *testing.T, w *Writer, want []byte) {
	t.Helper()
	got, e := w.Done()
	if e != api.OK || !bytes.Equal(got, want) {
		t.Errorf("%d bytes %.40x, %d; want %d bytes %.40x", len(got), got, e, len(want), want)
	}
}

func wantBadWriter(t *testing.T, w *Writer) {
	t.Helper()
	if got, e := w.Done(); e != api.EINVAL || len(got) != 0 {
		t.Errorf("%d bytes, %d; want none, EINVAL", len(got), e)
	}
}

func TestNothingWritten(t *testing.T) { // P3.1
	wantWritten(t, NewWriter(), nil)
}

func TestNumWritten(t *testing.T) { // P3.1
	for _, k := range []struct {
		n    int64
		want string
	}{
		{0, "\x00"}, {1, "\x01"}, {127, "\x7f"}, {128, "\x80\x01"}, {129, "\x81\x01"}, {255, "\xff\x01"}, {256, "\x80\x02"}, {300, "\xac\x02"},
		{16383, "\xff\x7f"}, {16384, "\x80\x80\x01"},
		{1<<56 - 1, "\xff\xff\xff\xff\xff\xff\xff\x7f"}, {1 << 56, "\x80\x80\x80\x80\x80\x80\x80\x80\x01"},
		{1<<62 - 1, "\xff\xff\xff\xff\xff\xff\xff\xff\x3f"}, {1 << 62, "\x80\x80\x80\x80\x80\x80\x80\x80\x40"},
	} {
		w := NewWriter()
		w.Num(k.n)
		wantWritten(t, w, []byte(k.want))
	}
	for _, n := range goodNums() {
		w := NewWriter()
		w.Num(n)
		wantWritten(t, w, plainNum(n))
	}
}

func TestBytesAndTextsWritten(t *testing.T) { // P3.1
	if api.MaxFile != 65536 {
		t.Fatal("MaxFile")
	}
	for _, k := range []struct {
		size int
		head string
	}{
		{0, "\x00"}, {1, "\x01"}, {127, "\x7f"}, {128, "\x80\x01"}, {16384, "\x80\x80\x01"}, {65535, "\xff\xff\x03"}, {65536, "\x80\x80\x04"},
	} {
		b := noise(uint64(k.size), k.size)
		want := append([]byte(k.head), b...)
		w := NewWriter()
		w.Bytes(b)
		wantWritten(t, w, want)
		w = NewWriter()
		w.Text(string(b))
		wantWritten(t, w, want)
	}
	w := NewWriter()
	w.Text("ab")
	w.Bytes([]byte{})
	w.Bytes(make([]byte, 1, 70000)) // spare room doesn't count
	w.Text("\x00\xff\xc0é")
	wantWritten(t, w, []byte("\x02ab\x00\x01\x00\x05\x00\xff\xc0é"))
}

func TestTruthWritten(t *testing.T) { // P3.1
	w := NewWriter()
	w.Truth(true)
	wantWritten(t, w, []byte{1})
	w.Truth(false)
	wantWritten(t, w, []byte{1, 0})
}

func TestIDWritten(t *testing.T) { // P3.1
	if api.MaxTime != 1<<60 || api.MaxNodes != 64 {
		t.Fatal("MaxTime, MaxNodes")
	}
	w := NewWriter()
	w.ID(api.ID{Time: 300, Node: 63})
	w.ID(api.ID{})
	w.ID(api.ID{Time: 1 << 60, Node: 1})
	wantWritten(t, w, []byte("\xac\x02\x3f\x00\x00\x80\x80\x80\x80\x80\x80\x80\x80\x10\x01"))
	for _, id := range goodIDs() {
		w := NewWriter()
		w.ID(id)
		wantWritten(t, w, plainID(id))
	}
}

func TestVectorWritten(t *testing.T) { // P3.1
	for _, k := range []struct {
		v    api.Vector
		want string
	}{
		{nil, "\x00"}, {api.Vector{}, "\x00"}, {api.Vector{0}, "\x00"}, {make(api.Vector, 65), "\x00"},
		{api.Vector{1, 0, 2, 0}, "\x03\x01\x00\x02"}, {api.Vector{0, 0, 300}, "\x03\x00\x00\xac\x02"},
		{api.Vector{1 << 60}, "\x01\x80\x80\x80\x80\x80\x80\x80\x80\x10"},
		{append(ones(64), 0, 0), "\x40" + strings.Repeat("\x01", 64)},
	} {
		w := NewWriter()
		w.Vector(k.v)
		wantWritten(t, w, []byte(k.want))
	}
	for _, v := range goodVectors() {
		w := NewWriter()
		w.Vector(v)
		wantWritten(t, w, plainVector(v))
	}
}

func TestOneBehindTheOther(t *testing.T) { // P3.1
	w := NewWriter()
	var want []byte
	for range 3 {
		for _, good := range goodWritings() {
			alone := NewWriter()
			good.do(alone)
			b, _ := alone.Done()
			good.do(w)
			want = append(want, b...)
			wantWritten(t, w, want)
		}
	}
}

func TestMuchWritten(t *testing.T) { // P3.1
	w := NewWriter()
	var want []byte
	for i := range 200 {
		b := noise(uint64(i), 65536-i)
		w.Bytes(b)
		want = append(want, plainBytes(b)...)
	}
	wantWritten(t, w, want)
}

func TestWhatCannotBeWritten(t *testing.T) { // P3.1, P0.1
	for i, bad := range badWritings() {
		w := NewWriter()
		bad.do(w)
		if got, e := w.Done(); e != api.EINVAL || len(got) != 0 {
			t.Errorf("%s, %d: %d bytes, %d", bad.name, i, len(got), e)
		}
		w = NewWriter()
		w.Num(5)
		w.Text("ab")
		wantWritten(t, w, []byte("\x05\x02ab"))
		bad.do(w)
		wantBadWriter(t, w)
	}
}

func TestBadWriterStaysBad(t *testing.T) { // P3.1
	for _, bad := range badWritings() {
		w := NewWriter()
		bad.do(w)
		for _, good := range goodWritings() {
			good.do(w)
			wantBadWriter(t, w)
		}
		bad.do(w)
		wantBadWriter(t, w)
		wantBadWriter(t, w)
	}
}

func TestDoneChangesNothing(t *testing.T) { // P3.1
	w := NewWriter()
	wantWritten(t, w, nil)
	w.Num(1)
	wantWritten(t, w, []byte{1})
	wantWritten(t, w, []byte{1})
	w.Text("a")
	wantWritten(t, w, []byte("\x01\x01a"))
}

func TestNilWriter(t *testing.T) { // P3.3
	var w *Writer
	wantBadWriter(t, w)
	for _, asked := range slices.Concat(goodWritings(), badWritings()) {
		asked.do(w)
		wantBadWriter(t, w)
	}
}

func TestZeroWriterHasWrittenNothing(t *testing.T) { // P0.1
	var w Writer
	wantWritten(t, &w, nil)
	w.Num(300)
	wantWritten(t, &w, []byte("\xac\x02"))
}

func TestWritersKnowNothingOfEachOther(t *testing.T) { // P0.5
	a, b, bad := NewWriter(), NewWriter(), NewWriter()
	a.Num(1)
	b.Num(2)
	bad.Num(-1)
	a.Text("a")
	b.Text("b")
	wantWritten(t, a, []byte("\x01\x01a"))
	wantWritten(t, b, []byte("\x02\x01b"))
	wantWritten(t, NewWriter(), nil)
	wantBadWriter(t, bad)
}

func TestWriterNeitherChangesNorKeeps(t *testing.T) { // P0.3
	for _, size := range []int{0, 1, 300, 65536, 65537} {
		room := noise(9, size+100)
		was := bytes.Clone(room)
		w := NewWriter()
		w.Bytes(room[:size])
		w.Num(1)
		if !bytes.Equal(room, was) {
			t.Errorf("Bytes of %d changed what it was given", size)
		}
		spoil(room)
		if size <= 65536 {
			wantWritten(t, w, append(plainBytes(was[:size]), 1))
		}
	}
	for _, size := range []int{0, 1, 3, 64, 65} {
		room := append(ones(size), 0, 0, 5, -5)
		was := slices.Clone(room)
		w := NewWriter()
		w.Vector(room[:size+2])
		w.Num(1)
		if !slices.Equal(room, was) {
			t.Errorf("Vector of %d changed what it was given", size)
		}
		for i := range room {
			room[i] = 77
		}
		if size <= 64 {
			wantWritten(t, w, append(plainVector(was[:size]), 1))
		}
	}
}

func TestWrittenIsNewMemory(t *testing.T) { // P3.3, P0.3
	for _, size := range []int{0, 1, 7, 300, 65536} {
		w := NewWriter()
		w.Bytes(noise(1, size))
		want := plainBytes(noise(1, size))
		a, _ := w.Done()
		b, _ := w.Done()
		spoil(a)
		wantWritten(t, w, want)
		if !bytes.Equal(b, want) {
			t.Errorf("two answers of %d bytes share memory", size)
		}
		w.Num(5)
		wantWritten(t, w, append(want, 5))
		if !bytes.Equal(b, want) || bytes.Equal(a, want) {
			t.Errorf("an answer of %d bytes was changed", size)
		}
		spoil(b)
		w.Num(6)
		wantWritten(t, w, append(want, 5, 6))
	}
	w := NewWriter()
	none, _ := w.Done()
	w.Num(7)
	_ = append(none, 8, 8, 8)
	wantWritten(t, w, []byte{7})
}
