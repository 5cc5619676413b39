package crc

import (
	"bytes"
	"math/bits"
	"testing"

	"lagoon/api"
)

// plain is the sum as the chapter words it, bit by bit: bits in and out reversed, begun with all ones, the end turned over.
func plain(b []byte) uint32 {
	register := uint32(0xffffffff)
	for _, x := range b {
		register ^= uint32(bits.Reverse8(x)) << 24
		for range 8 {
			top := register >> 31
			register <<= 1
			if top == 1 {
				register ^= 0x04c11db7
			}
		}
	}
	return ^bits.Reverse32(register)
}

// noise gives n bytes that hang on seed alone.
func noise(seed uint64, n int) []byte {
	b := make([]byte, n)
	for i := range b {
		seed = seed*6364136223846793005 + 1442695040888963407
		b[i] = byte(seed >> 56)
	}
	return b
}

// roomy gives a copy of b with spare room, all of it filled.
func roomy(b []byte) []byte {
	r := append(append(make([]byte, 0, len(b)+16), b...), bytes.Repeat([]byte{0xa5}, 16)...)
	return r[:len(b)]
}

// spoil writes over b, spare room too.
func spoil(b []byte) {
	b = b[:cap(b)]
	for i := range b {
		b[i] ^= 0xff
	}
}

func mustFrame(t *testing.T, b []byte) []byte {
	t.Helper()
	f, e := Frame(b)
	if e != api.OK {
		t.Fatalf("Frame of %d bytes: %d", len(b), e)
	}
	return f
}

func wantCarried(t *testing.T, b, want []byte) {
	t.Helper()
	got, n, e := Unframe(b)
	if e != api.OK || n != 8+len(want) || !bytes.Equal(got, want) {
		t.Errorf("Unframe: %d bytes, takes %d, %d; want %d bytes", len(got), n, e, len(want))
	}
}

func wantNone(t *testing.T, b []byte, want api.Errno) {
	t.Helper()
	if got, n, e := Unframe(b); e != want || len(got) != 0 || n != 0 {
		t.Errorf("Unframe of %d bytes: %d bytes, takes %d, %d; want error %d alone", len(b), len(got), n, e, want)
	}
}

// headed puts a head of any length and CRC ahead of b.
func headed(size, sum uint32, b []byte) []byte {
	f := []byte{byte(size), byte(size >> 8), byte(size >> 16), byte(size >> 24)}
	f = append(f, byte(sum), byte(sum>>8), byte(sum>>16), byte(sum>>24))
	return append(f, b...)
}

func TestOfKnownTexts(t *testing.T) { // P2.1
	for _, k := range []struct {
		b    []byte
		want uint32
	}{
		{nil, 0},
		{[]byte{}, 0},
		{[]byte("123456789"), 0xcbf43926},
		{[]byte("a"), 0xe8b7be43},
		{[]byte("abc"), 0x352441c2},
		{[]byte("The quick brown fox jumps over the lazy dog"), 0x414fa339},
		{[]byte{0}, 0xd202ef8d},
		{[]byte{0xff}, 0xff000000},
		{[]byte{0xff, 0xff, 0xff, 0xff}, 0xffffffff},
		{make([]byte, 32), 0x190a55ad},
		{bytes.Repeat([]byte{0xff}, 32), 0xff6cab0b},
	} {
		if got := Of(k.b); got != k.want {
			t.Errorf("Of(%x) = %08x, want %08x", k.b, got, k.want)
		}
	}
}

func TestOfIsTheChaptersSum(t *testing.T) { // P2.1
	for i := range 1 << 16 { // all of one byte, all of two
		for _, b := range [][]byte{{byte(i)}, {byte(i >> 8), byte(i)}} {
			if got := Of(b); got != plain(b) {
				t.Fatalf("Of(%x) = %08x, want %08x", b, got, plain(b))
			}
		}
	}
	for n := range 600 {
		b := noise(uint64(n), n)
		if got := Of(b); got != plain(b) {
			t.Fatalf("Of %d bytes: %08x, want %08x", n, got, plain(b))
		}
	}
	if b := noise(1, 3<<20+1); Of(b) != plain(b) {
		t.Errorf("Of %d bytes: %08x", len(b), Of(b))
	}
}

func TestOfParts(t *testing.T) { // P2.1, P0.4
	b := []byte("123456789")
	const want = 0xcbf43926
	for i := range len(b) + 1 {
		for j := i; j <= len(b); j++ {
			if got := Of(b[:i], b[i:j], b[j:]); got != want {
				t.Errorf("cut at %d, %d: %08x", i, j, got)
			}
			if got := Of(nil, b[:i], nil, []byte{}, b[i:j], b[j:], nil, []byte{}); got != want {
				t.Errorf("cut at %d, %d, with nothing between: %08x", i, j, got)
			}
		}
	}
	var single [][]byte
	for _, x := range b {
		single = append(single, []byte{x})
	}
	if got := Of(single...); got != want {
		t.Errorf("byte by byte: %08x", got)
	}
	if Of() != 0 || Of(nil) != 0 || Of(nil, []byte{}, nil) != 0 || Of([][]byte(nil)...) != 0 || Of([][]byte{}...) != 0 {
		t.Error("the sum of nothing is not 0")
	}
	if Of([]byte("12"), []byte("34")) == Of([]byte("34"), []byte("12")) {
		t.Error("the order of the parts is not to be seen")
	}
	if part := []byte("ab"); Of(part, part) != Of([]byte("abab")) {
		t.Error("a part that comes twice")
	}
}

func TestOfManyParts(t *testing.T) { // P2.1
	b := noise(7, 200000)
	parts := make([][]byte, 0, 2*len(b))
	for i := range b {
		parts = append(parts, b[i:i+1], nil)
	}
	if got := Of(parts...); got != plain(b) {
		t.Errorf("%08x", got)
	}
}

func TestSumInParts(t *testing.T) { // P2.1
	b := []byte("The quick brown fox jumps over the lazy dog")
	for i := range len(b) + 1 {
		s := New()
		if s.Value() != 0 {
			t.Fatalf("a new sum: %08x", s.Value())
		}
		s.Add(b[:i])
		s.Add(nil)
		if got := s.Value(); got != plain(b[:i]) {
			t.Errorf("of %d bytes: %08x", i, got)
		}
		s.Add([]byte{})
		s.Add(b[i:])
		if got := s.Value(); got != 0x414fa339 {
			t.Errorf("cut at %d: %08x", i, got)
		}
	}
}

func TestValueChangesNothing(t *testing.T) { // P2.1
	b := noise(3, 300)
	s := New()
	for i, x := range b {
		for range 3 {
			if got := s.Value(); got != plain(b[:i]) {
				t.Fatalf("after %d bytes: %08x", i, got)
			}
		}
		s.Add([]byte{x})
	}
	if s.Value() != plain(b) || s.Value() != plain(b) {
		t.Errorf("at the end: %08x", s.Value())
	}
}

func TestNilSum(t *testing.T) { // P2.1
	var s *Sum
	for _, b := range [][]byte{nil, {}, {1}, []byte("123456789"), noise(5, 5000)} {
		s.Add(b)
		add := s.Add
		add(b)
		if s.Value() != 0 {
			t.Errorf("Value of a nil *Sum: %08x", s.Value())
		}
	}
}

func TestZeroSumIsOfNothing(t *testing.T) { // P0.1
	var s Sum
	if s.Value() != 0 {
		t.Errorf("%08x", s.Value())
	}
	s.Add([]byte("123456789"))
	if s.Value() != 0xcbf43926 {
		t.Errorf("%08x", s.Value())
	}
}

func TestSumsKnowNothingOfEachOther(t *testing.T) { // P0.5
	a, b := New(), New()
	a.Add([]byte("1234"))
	b.Add([]byte("a"))
	Of([]byte("xyz"))
	mustFrame(t, []byte("xyz"))
	a.Add([]byte("56789"))
	b.Add([]byte("bc"))
	if a.Value() != 0xcbf43926 || b.Value() != 0x352441c2 || New().Value() != 0 {
		t.Errorf("%08x, %08x", a.Value(), b.Value())
	}
}

func TestSumsNeitherChangeNorKeep(t *testing.T) { // P0.3
	b := roomy([]byte("123456789"))
	was := bytes.Clone(b[:cap(b)])
	parts := append(make([][]byte, 0, 3), b[:4:4], b[4:])
	s := New()
	s.Add(b)
	if Of(parts...) != 0xcbf43926 || s.Value() != 0xcbf43926 {
		t.Fatal("the sums")
	}
	if !bytes.Equal(b[:cap(b)], was) || parts[:3][2] != nil || &parts[0][0] != &b[0] || len(parts[0]) != 4 || &parts[1][0] != &b[4] || len(parts[1]) != 5 {
		t.Error("what was handed in was changed")
	}
	spoil(b)
	if s.Value() != 0xcbf43926 {
		t.Error("what was added was kept")
	}
	if s.Add(nil); s.Value() != 0xcbf43926 {
		t.Error("what was added was kept")
	}
}

func TestFrameBytes(t *testing.T) { // P2.2
	for _, k := range []struct {
		b, want []byte
	}{
		{nil, make([]byte, 8)},
		{[]byte{}, make([]byte, 8)},
		{[]byte{0}, []byte{1, 0, 0, 0, 0x8d, 0xef, 0x02, 0xd2, 0}},
		{[]byte("123456789"), append([]byte{9, 0, 0, 0, 0x26, 0x39, 0xf4, 0xcb}, "123456789"...)},
	} {
		if f := mustFrame(t, k.b); !bytes.Equal(f, k.want) {
			t.Errorf("Frame(%q) = %x, want %x", k.b, f, k.want)
		}
	}
	for _, n := range []int{0, 1, 2, 255, 256, 257, 65535, 65536, 0x0d0e0f, api.MaxFrame - 1, api.MaxFrame} {
		b := noise(uint64(n), n)
		f := mustFrame(t, b)
		if !bytes.Equal(f, headed(uint32(n), plain(b), b)) {
			t.Errorf("Frame of %d bytes begins %x", n, f[:8])
		}
		wantCarried(t, f, b)
	}
}

func TestFrameIsNotTooLong(t *testing.T) { // P2.2, P0.2
	if api.MaxFrame != 1048576 {
		t.Fatal("MaxFrame")
	}
	for _, n := range []int{1048577, 1048578, 1<<24 + 1} {
		if f, e := Frame(make([]byte, n)); e != api.EINVAL || len(f) != 0 {
			t.Errorf("Frame of %d bytes: %d bytes, %d", n, len(f), e)
		}
	}
	if f, e := Frame(make([]byte, 5, 2<<20)); e != api.OK || len(f) != 13 {
		t.Errorf("spare room counted: %d bytes, %d", len(f), e)
	}
}

func TestUnframeShort(t *testing.T) { // P2.2
	wantNone(t, nil, api.EINVAL)
	f := mustFrame(t, []byte("abc"))
	for n := range len(f) {
		wantNone(t, f[:n], api.EINVAL) // though the rest stands in the spare room
		wantNone(t, bytes.Clone(f[:n]), api.EINVAL)
	}
	for n := range 8 {
		wantNone(t, make([]byte, n), api.EINVAL)
		wantNone(t, bytes.Repeat([]byte{0xff}, n), api.EINVAL)
	}
	wantCarried(t, make([]byte, 8), nil)
	great := mustFrame(t, noise(2, api.MaxFrame))
	wantNone(t, great[:len(great)-1], api.EINVAL)
}

func TestUnframeTooLong(t *testing.T) { // P2.2
	b := noise(4, api.MaxFrame+1)
	wantCarried(t, headed(1048576, Of(b[:1048576]), b), b[:1048576])
	wantNone(t, headed(1048577, Of(b), b), api.EINVAL)
	for _, size := range []uint32{1048577, 1048578, 1 << 24, 1<<31 - 1, 1 << 31, 1<<32 - 8, 1<<32 - 1} {
		wantNone(t, headed(size, 0, nil), api.EINVAL)
		wantNone(t, headed(size, Of(b), b), api.EINVAL)
	}
}

func TestUnframeTellsEINVALFirst(t *testing.T) { // P0.2
	b := []byte("abc")
	wantNone(t, headed(4, Of(b)^1, b), api.EINVAL)
	wantNone(t, headed(4, Of(b), b), api.EINVAL)
	wantNone(t, headed(3, Of(b)^1, b), api.EBADMSG)
	wantNone(t, headed(1048577, 1, make([]byte, 1048577)), api.EINVAL)
	wantNone(t, headed(1048577, 1, nil), api.EINVAL)
	wantNone(t, headed(0, 1, nil), api.EBADMSG)
}

func TestUnframeBytesBehind(t *testing.T) { // P2.2
	texts := [][]byte{[]byte("ab"), nil, []byte("123456789"), {0}, noise(6, 1000)}
	var line []byte
	for _, b := range texts {
		line = append(line, mustFrame(t, b)...)
	}
	for _, want := range texts {
		got, n, e := Unframe(line)
		if e != api.OK || n != 8+len(want) || !bytes.Equal(got, want) {
			t.Fatalf("%x, takes %d, %d; want %x", got, n, e, want)
		}
		line = line[n:]
	}
	wantNone(t, line, api.EINVAL)
	for _, behind := range [][]byte{{0}, {0xff}, make([]byte, 8), noise(8, 2<<20)} {
		wantCarried(t, append(mustFrame(t, []byte("ab")), behind...), []byte("ab"))
	}
}

func TestUnframeSpoiled(t *testing.T) { // P2.2
	for _, b := range [][]byte{nil, []byte("a"), []byte("The quick brown fox"), noise(9, 300)} {
		f := mustFrame(t, b)
		for i := range f {
			for x := 1; x < 256; x++ {
				bad := bytes.Clone(f)
				bad[i] ^= byte(x)
				want := api.EBADMSG
				// A changed length may ask for bytes that aren't there.
				if int(bad[0])|int(bad[1])<<8|int(bad[2])<<16|int(bad[3])<<24 > len(b) {
					want = api.EINVAL
				}
				wantNone(t, bad, want)
			}
		}
	}
}

func TestUnframeAnyBytes(t *testing.T) { // P2.2, P0.1
	for seed := range uint64(20000) {
		b := noise(seed, int(seed%40))
		if len(b) >= 4 {
			copy(b, []byte{b[0] % 32, b[1] / 255, 0, b[3] / 255})
		}
		if len(b) >= 8 && seed%3 == 0 {
			copy(b[4:], headed(0, plain(b[8:min(len(b), 8+int(b[0]))]), nil)[4:8])
		}
		size := len(b)
		if len(b) >= 8 {
			size = 8 + int(b[0]) + int(b[1])<<8 + int(b[3])<<24
		}
		switch {
		case len(b) < 8 || size > len(b):
			wantNone(t, b, api.EINVAL)
		case !bytes.Equal(headed(0, plain(b[8:size]), nil)[4:], b[4:8]):
			wantNone(t, b, api.EBADMSG)
		default:
			wantCarried(t, b, b[8:size])
		}
	}
}

func TestFramesAreNewMemory(t *testing.T) { // P0.3
	for _, text := range [][]byte{{}, []byte("a"), []byte("123456789"), noise(10, 1000)} {
		b := roomy(text)
		was := bytes.Clone(b[:cap(b)])
		f, g := mustFrame(t, b), mustFrame(t, b)
		spoil(f)
		if !bytes.Equal(b[:cap(b)], was) {
			t.Error("what Frame answers shares memory with what it was given, or that was changed")
		}
		spoil(b)
		wantCarried(t, g, text)

		whole := roomy(append(g, "behind"...))
		was = bytes.Clone(whole[:cap(whole)])
		c, _, _ := Unframe(whole)
		d, _, _ := Unframe(whole)
		spoil(c)
		if !bytes.Equal(whole[:cap(whole)], was) {
			t.Error("what Unframe answers shares memory with what it was given, or that was changed")
		}
		spoil(whole)
		if !bytes.Equal(d, text) {
			t.Error("what Unframe answers hangs on what it was given")
		}
	}
}

func TestRefusedCallsChangeNothing(t *testing.T) { // P0.2, P0.3
	long := noise(11, api.MaxFrame+1)
	bad := headed(3, 1, []byte("abc"))
	short := headed(4, 1, []byte("abc"))
	for _, b := range [][]byte{long, bad, short} {
		was := bytes.Clone(b[:cap(b)])
		Frame(b)
		Unframe(b)
		if !bytes.Equal(b[:cap(b)], was) {
			t.Errorf("%d bytes were changed", len(b))
		}
	}
}
