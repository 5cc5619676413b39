package codec

import (
	"bytes"
	"slices"
	"strings"
	"testing"

	"lagoon/api"
)

// reading is something that is read of a reader; zero tells whether it was its zero value.
type reading struct {
	name string
	zero func(r *Reader) bool
}

// readings has each call that reads.
func readings() []reading {
	return []reading{
		{"Num", func(r *Reader) bool { return r.Num() == 0 }},
		{"Bytes", func(r *Reader) bool { return len(r.Bytes()) == 0 }},
		{"Text", func(r *Reader) bool { return r.Text() == "" }},
		{"Truth", func(r *Reader) bool { return !r.Truth() }},
		{"ID", func(r *Reader) bool { return r.ID() == api.ID{} }},
		{"Vector", func(r *Reader) bool { return len(r.Vector()) == 0 }},
	}
}

func readingOf(t *testing.T, name string) reading {
	t.Helper()
	for _, read := range readings() {
		if read.name == name {
			return read
		}
	}
	t.Fatalf("no reading %s", name)
	return reading{}
}

// word is bytes that a call, of that name, is to read.
type word struct {
	name string
	b    string
}

// unreadables has what cannot be read, whatever stands behind it.
func unreadables() []word {
	top, above, huge := string(plainNum(1<<60)), string(plainNum(1<<60+1)), string(plainNum(1<<62))
	many := strings.Repeat("\x01", 70000)
	bad := []word{
		{"Truth", "\x02"}, {"Truth", "\x03"}, {"Truth", "\x7f"}, {"Truth", "\x80"}, {"Truth", "\xff"}, {"Truth", "\x80\x00"}, {"Truth", "\x81\x00"}, {"Truth", "\x81\x01"},
		{"Bytes", "\x81\x80\x04" + many}, {"Bytes", "\x82\x80\x04" + many}, {"Bytes", "\x81\x80\x04"}, {"Bytes", string(plainNum(1<<32)) + many}, {"Bytes", huge + many},
		{"ID", "\x01\x40"}, {"ID", "\x00\x40"}, {"ID", "\x01\x7f"}, {"ID", "\x01\x80\x01"}, {"ID", "\x01" + huge}, {"ID", top + "\x40"},
		{"ID", above + "\x00"}, {"ID", above + "\x3f"}, {"ID", above + "\x40"}, {"ID", huge + "\x01"},
		{"Vector", "\x41"}, {"Vector", "\x41" + many}, {"Vector", "\x7f" + many}, {"Vector", "\x80\x01" + many}, {"Vector", string(plainNum(1<<32+1)) + many}, {"Vector", huge + many},
		{"Vector", "\x01" + above}, {"Vector", "\x02" + above + "\x01"}, {"Vector", "\x02\x01" + above}, {"Vector", "\x01" + huge}, {"Vector", "\x40" + many[:63] + above},
		{"Vector", "\x01\x00"}, {"Vector", "\x02\x01\x00"}, {"Vector", "\x03\x01\x02\x00"}, {"Vector", "\x04\x00\x00\x00\x00"}, {"Vector", "\x40" + many[:63] + "\x00"}, {"Vector", "\x40" + strings.Repeat("\x00", 64)},
	}
	for _, n := range noNumbers() {
		bad = append(bad, word{"Num", n}, word{"Bytes", n}, word{"ID", n + "\x01"}, word{"ID", "\x05" + n}, word{"Vector", n}, word{"Vector", "\x02\x01" + n}, word{"Vector", "\x02" + n + "\x01"})
	}
	for _, k := range bad {
		if k.name == "Bytes" {
			bad = append(bad, word{"Text", k.b})
		}
	}
	return bad
}

// noNumbers has bytes that begin with no number, though they have an end.
func noNumbers() []string {
	none := []string{"\x80\x80\x00", "\x81\x80\x00", "\xff\xff\x00", "\xac\x82\x00",
		"\x81\x80\x80\x80\x80\x80\x80\x80\x40", "\x80\x80\x80\x80\x80\x80\x80\x80\x41", "\x80\x81\x80\x80\x80\x80\x80\x80\x40", "\xff\xff\xff\xff\xff\xff\xff\xff\x40", "\xff\xff\xff\xff\xff\xff\xff\xff\x7f"}
	for x := range 128 { // not as short as may be
		none = append(none, string([]byte{byte(x + 128), 0}))
	}
	for size := 10; size < 30; size++ { // more bytes than any number has
		for _, x := range []string{"\x80", "\x81", "\xff"} {
			for _, last := range []string{"\x00", "\x01", "\x02", "\x7f"} {
				none = append(none, strings.Repeat(x, size-1)+last)
			}
		}
	}
	return append(none, strings.Repeat("\x80", 100000)+"\x01")
}

func wantLeft(t *testing.T, r *Reader, want int) {
	t.Helper()
	done := api.OK
	if want > 0 {
		done = api.EBADMSG
	}
	if r.Left() != want || r.Err() != api.OK || r.Done() != done || r.Left() != want || r.Err() != api.OK {
		t.Errorf("Left %d, Err %d, Done %d; want %d, %d, %d", r.Left(), r.Err(), r.Done(), want, api.OK, done)
	}
}

func wantBadReader(t *testing.T, r *Reader) {
	t.Helper()
	if r.Left() != 0 || r.Err() != api.EBADMSG || r.Done() != api.EBADMSG || r.Left() != 0 || r.Err() != api.EBADMSG {
		t.Errorf("Left %d, Err %d, Done %d; want 0, EBADMSG twice", r.Left(), r.Err(), r.Done())
	}
}

// behind gives b itself, and with bytes behind it.
func behind(b []byte) [][]byte {
	return [][]byte{b, append(bytes.Clone(b), 0), append(bytes.Clone(b), 0x80, 0xff)}
}

func TestNothingRead(t *testing.T) { // P3.2
	for _, b := range [][]byte{nil, {}} {
		wantLeft(t, NewReader(b), 0)
		for _, read := range readings() {
			r := NewReader(b)
			if !read.zero(r) {
				t.Errorf("%s of nothing is not zero", read.name)
			}
			wantBadReader(t, r)
		}
	}
}

func TestNumRead(t *testing.T) { // P3.2
	for _, n := range goodNums() {
		for i, b := range behind(plainNum(n)) {
			r := NewReader(b)
			wantLeft(t, r, len(b))
			if got := r.Num(); got != n {
				t.Errorf("Num of %x: %d, want %d", b, got, n)
			}
			wantLeft(t, r, i)
		}
	}
	r := NewReader([]byte("\xac\x02\x7f\x80\x01"))
	if a, b, c := r.Num(), r.Num(), r.Num(); a != 300 || b != 127 || c != 128 {
		t.Errorf("%d, %d, %d", a, b, c)
	}
	wantLeft(t, r, 0)
}

func TestBytesAndTextsRead(t *testing.T) { // P3.2
	for _, size := range []int{0, 1, 2, 127, 128, 300, 65535, 65536} {
		want := noise(uint64(size), size)
		for i, b := range behind(plainBytes(want)) {
			r := NewReader(b)
			if got := r.Bytes(); !bytes.Equal(got, want) {
				t.Errorf("Bytes of %d: %d bytes", size, len(got))
			}
			wantLeft(t, r, i)
			r = NewReader(b)
			if got := r.Text(); got != string(want) {
				t.Errorf("Text of %d: %d bytes", size, len(got))
			}
			wantLeft(t, r, i)
		}
	}
}

func TestTruthRead(t *testing.T) { // P3.2
	for x := range 256 {
		for i, b := range behind([]byte{byte(x)}) {
			r := NewReader(b)
			if got := r.Truth(); got != (x == 1) {
				t.Errorf("Truth of %x: %v", b, got)
			}
			if x < 2 {
				wantLeft(t, r, i)
			} else {
				wantBadReader(t, r)
			}
		}
	}
}

func TestIDRead(t *testing.T) { // P3.2
	for _, id := range goodIDs() {
		for i, b := range behind(plainID(id)) {
			r := NewReader(b)
			if got := r.ID(); got != id {
				t.Errorf("ID of %x: %v, want %v", b, got, id)
			}
			wantLeft(t, r, i)
		}
	}
}

func TestVectorRead(t *testing.T) { // P3.2
	for _, v := range goodVectors() {
		want := v
		for len(want) > 0 && want[len(want)-1] == 0 {
			want = want[:len(want)-1]
		}
		for i, b := range behind(plainVector(v)) {
			r := NewReader(b)
			if got := r.Vector(); !slices.Equal(got, want) {
				t.Errorf("Vector of %.40x: %v, want %v", b, got, want)
			}
			wantLeft(t, r, i)
		}
	}
}

func TestWhatCannotBeRead(t *testing.T) { // P3.2, P0.1
	for _, k := range unreadables() {
		for _, b := range behind([]byte(k.b)) {
			for _, ahead := range []string{"", "\x05", "\xac\x02"} {
				r := NewReader(append([]byte(ahead), b...))
				if ahead != "" {
					r.Num()
				}
				wantLeft(t, r, len(b))
				if !readingOf(t, k.name).zero(r) || r.Err() != api.EBADMSG {
					t.Errorf("%s of %.40x: not zero, or %d", k.name, b, r.Err())
				}
				wantBadReader(t, r)
			}
		}
	}
}

func TestBadReaderStaysBad(t *testing.T) { // P3.2
	// Of the bytes behind, each call could read something that is not zero.
	const good = "\x01\x01\x01\x01\x01\x01"
	for _, k := range unreadables() {
		for _, read := range readings() {
			r := NewReader([]byte(k.b + good))
			readingOf(t, k.name).zero(r)
			for range 2 {
				if !read.zero(r) {
					t.Errorf("%s behind %s of %.40x is not zero", read.name, k.name, k.b)
				}
				wantBadReader(t, r)
			}
		}
	}
}

func TestBytesEndAtEveryPlace(t *testing.T) { // P3.2
	whole := []word{
		{"Num", "\x00"}, {"Num", "\xac\x02"}, {"Num", string(plainNum(1 << 62))},
		{"Truth", "\x01"},
		{"Bytes", "\x02ab"}, {"Bytes", string(plainBytes(noise(1, 300)))}, {"Text", "\x02ab"}, {"Text", string(plainBytes(noise(2, 300)))},
		{"ID", "\x05\x06"}, {"ID", string(plainID(api.ID{Time: 1 << 60, Node: 63}))},
		{"Vector", "\x03\x01\x00\x02"}, {"Vector", string(plainVector(slices.Repeat(api.Vector{1 << 60}, 64)))},
	}
	for _, k := range whole {
		read := readingOf(t, k.name)
		for end := range len(k.b) {
			room := []byte(k.b)
			for _, b := range [][]byte{room[:end], room[:end:end]} { // that the rest stands in the spare room helps nothing
				r := NewReader(b)
				wantLeft(t, r, end)
				if !read.zero(r) {
					t.Errorf("%s of %d bytes of %.40x is not zero", k.name, end, k.b)
				}
				wantBadReader(t, r)
			}
		}
		r := NewReader([]byte(k.b))
		read.zero(r)
		wantLeft(t, r, 0)
	}
	for _, b := range []string{"\x80\x80\x04" + strings.Repeat("a", 65535), "\x80\x80\x04"} {
		for _, name := range []string{"Bytes", "Text"} {
			r := NewReader([]byte(b))
			if !readingOf(t, name).zero(r) {
				t.Errorf("%s of %d bytes is not zero", name, len(b))
			}
			wantBadReader(t, r)
		}
	}
}

func TestStructuresEndAtEveryPlace(t *testing.T) { // P3.2
	b := []byte("\xac\x02" + "\x02ab" + "\x03\x01\x00\x02" + "\x01" + "\x80\x01\x3f" + "\x01z")
	ends := []int{2, 5, 9, 10, 13, 15}
	for end := range len(b) + 1 {
		r := NewReader(b[:end])
		zero := []bool{r.Num() == 0, r.Text() == "", len(r.Vector()) == 0, !r.Truth(), r.ID() == api.ID{}, len(r.Bytes()) == 0}
		for i, z := range zero {
			if z != (end < ends[i]) {
				t.Errorf("%d bytes: is value %d zero: %v", end, i, z)
			}
		}
		if end < len(b) {
			wantBadReader(t, r)
		} else {
			wantLeft(t, r, 0)
		}
	}
}

func TestLeftAndErr(t *testing.T) { // P3.2
	r := NewReader([]byte("\xac\x02\x02ab\x03\x01\x00\x02\x02\x01\x01"))
	wantLeft(t, r, 12)
	r.Num()
	wantLeft(t, r, 10)
	r.Text()
	wantLeft(t, r, 7)
	r.Vector()
	wantLeft(t, r, 3)
	r.Truth()
	wantBadReader(t, r)
}

func TestBytesLeftAtDone(t *testing.T) { // P3.2
	r := NewReader([]byte("\x01\x02"))
	for want := int64(1); want < 3; want++ {
		if e := r.Done(); e != api.EBADMSG {
			t.Errorf("Done with bytes left: %d", e)
		}
		// That there are bytes left is told, and makes nothing bad.
		if got := r.Num(); got != want || r.Err() != api.OK {
			t.Errorf("Num %d, Err %d; want %d, OK", got, r.Err(), want)
		}
	}
	if r.Done() != api.OK || r.Done() != api.OK {
		t.Errorf("Done at the end: %d", r.Done())
	}
}

func TestReadingPastTheEnd(t *testing.T) { // P3.2
	for _, read := range readings() {
		r := NewReader([]byte{5})
		r.Num()
		wantLeft(t, r, 0)
		if !read.zero(r) {
			t.Errorf("%s behind the end is not zero", read.name)
		}
		wantBadReader(t, r)
	}
}

func TestNilReader(t *testing.T) { // P3.3
	var r *Reader
	wantBadReader(t, r)
	for _, read := range readings() {
		if !read.zero(r) {
			t.Errorf("%s of a nil *Reader is not zero", read.name)
		}
		wantBadReader(t, r)
	}
}

func TestZeroReaderIsOfNothing(t *testing.T) { // P0.1
	var r Reader
	wantLeft(t, &r, 0)
	if r.Num() != 0 {
		t.Error("a number of nothing")
	}
	wantBadReader(t, &r)
}

func TestReadersKnowNothingOfEachOther(t *testing.T) { // P0.5
	b := []byte("\x01\x02\x03")
	one, two, bad := NewReader(b), NewReader(b), NewReader(b)
	one.Num()
	bad.Truth()
	bad.Truth()
	if one.Num() != 2 || two.Num() != 1 {
		t.Error("a reader read what another one has read")
	}
	wantLeft(t, one, 1)
	wantLeft(t, two, 2)
	wantBadReader(t, bad)
}

func TestReaderNeitherChangesNorKeeps(t *testing.T) { // P0.3
	for _, size := range []int{0, 1, 300, 65536} {
		want := noise(uint64(size), size)
		room := append(plainBytes(want), noise(3, 50)...)
		was := bytes.Clone(room)
		b := room[:len(room)-50]
		first, later := NewReader(b), NewReader(b)
		spoil(first.Bytes())
		if !bytes.Equal(room, was) {
			t.Errorf("what NewReader was given was changed, of %d", size)
		}
		spoil(room)
		if got := later.Bytes(); !bytes.Equal(got, want) || later.Done() != api.OK {
			t.Errorf("what NewReader was given was kept, of %d", size)
		}
	}
}

func TestReadIsNewMemory(t *testing.T) { // P3.3, P0.3
	for _, size := range []int{0, 1, 2, 7, 300, 65536} {
		want := noise(4, size)
		r := NewReader(bytes.Repeat(plainBytes(want), 4))
		a := r.Bytes()
		spoil(a)
		b := r.Bytes()
		text := r.Text()
		_ = append(b, 0x55, 0x55, 0x55) // into the spare room, if there is some
		spoil(a)
		c := r.Bytes()
		spoil(c)
		if !bytes.Equal(b, want) || text != string(want) {
			t.Errorf("answers of %d bytes share memory", size)
		}
		wantLeft(t, r, 0)
	}
	r := NewReader(bytes.Repeat([]byte("\x03\x01\x00\x02"), 3))
	a, b := r.Vector(), r.Vector()
	for i := range a {
		a[i] = 9
	}
	_ = append(a, 9, 9, 9)
	if c := r.Vector(); !slices.Equal(b, api.Vector{1, 0, 2}) || !slices.Equal(c, api.Vector{1, 0, 2}) {
		t.Errorf("vectors share memory: %v, %v", b, c)
	}
}

// wantAsPlain holds each call that reads against the plain words, at b.
func wantAsPlain(t *testing.T, b []byte) {
	t.Helper()
	check := func(name string, r *Reader, size int, ok, same bool) {
		t.Helper()
		left, e := 0, api.EBADMSG
		if ok {
			left, e = len(b)-size, api.OK
		}
		if !same || r.Left() != left || r.Err() != e {
			t.Fatalf("%s of %x: as it should be: %v, Left %d, Err %d; want Left %d, Err %d", name, b, same, r.Left(), r.Err(), left, e)
		}
	}
	r := NewReader(b)
	n, size, ok := plainFirst(b, 1<<62)
	check("Num", r, size, ok, r.Num() == n)
	r = NewReader(b)
	n, size, ok = plainFirst(b, 1)
	check("Truth", r, size, ok, r.Truth() == (n == 1))
	run, size, ok := plainRun(b)
	r = NewReader(b)
	check("Bytes", r, size, ok, bytes.Equal(r.Bytes(), run))
	r = NewReader(b)
	check("Text", r, size, ok, r.Text() == string(run))
	r = NewReader(b)
	id, size, ok := plainFirstID(b)
	check("ID", r, size, ok, r.ID() == id)
	r = NewReader(b)
	v, size, ok := plainFirstVector(b)
	check("Vector", r, size, ok, slices.Equal(r.Vector(), v))
}

func TestReadAnyBytes(t *testing.T) { // P3.2, P0.1
	for i := range 1 << 16 { // all of one byte, all of two
		wantAsPlain(t, []byte{byte(i)})
		wantAsPlain(t, []byte{byte(i >> 8), byte(i)})
	}
	digits := []byte{0, 1, 2, 63, 64, 65, 127, 128, 129, 192, 255}
	for i := range len(digits) * len(digits) * len(digits) * len(digits) { // all of four of these
		b := make([]byte, 4)
		for j := range b {
			b[j], i = digits[i%len(digits)], i/len(digits)
		}
		wantAsPlain(t, b)
	}
	for seed := range uint64(30000) {
		b := noise(seed, int(seed%40))
		wantAsPlain(t, b)
		for i := range b { // long numbers, with an end somewhere
			if seed%5 != 0 && b[i]%16 > 0 {
				b[i] |= 128
			}
		}
		wantAsPlain(t, b)
		for i := range b { // small ones
			b[i] %= 5
		}
		wantAsPlain(t, b)
	}
}

func TestWhatIsWrittenIsRead(t *testing.T) { // P3.1, P3.2
	w := NewWriter()
	nums, ids, vectors := goodNums(), goodIDs(), goodVectors()
	for i := range 500 {
		w.Num(nums[i%len(nums)])
		w.Bytes(noise(uint64(i), i))
		w.Truth(i%3 == 0)
		w.ID(ids[i%len(ids)])
		w.Vector(vectors[i%len(vectors)])
		w.Text(string(noise(uint64(i), 500-i)))
	}
	b, e := w.Done()
	if e != api.OK {
		t.Fatal(e)
	}
	r := NewReader(b)
	for i := range 500 {
		same := r.Num() == nums[i%len(nums)] && bytes.Equal(r.Bytes(), noise(uint64(i), i)) && r.Truth() == (i%3 == 0) && r.ID() == ids[i%len(ids)]
		if v := r.Vector(); !bytes.Equal(plainVector(v), plainVector(vectors[i%len(vectors)])) || len(v) > 0 && v[len(v)-1] == 0 {
			same = false
		}
		if r.Text() != string(noise(uint64(i), 500-i)) || !same {
			t.Fatalf("round %d", i)
		}
	}
	wantLeft(t, r, 0)
}
