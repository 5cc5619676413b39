package bitmap

import (
	"bytes"
	"math"
	"slices"
	"testing"

	"lagoon/api"
)

// wantBytes holds Bytes against the very bytes.
func wantBytes(t *testing.T, m *Map, want ...byte) {
	t.Helper()
	if b := m.Bytes(); !bytes.Equal(b, want) {
		t.Errorf("Bytes of %d numbers = %x, want %x", m.Size(), b, want)
	}
}

func wantNotLoaded(t *testing.T, b []byte, n int, want api.Errno) {
	t.Helper()
	if m, e := Load(b, n); m != nil || e != want {
		t.Errorf("Load(%x, %d) = %v, %d; want nil, %d", b, n, m, e, want)
	}
}

func fill(b []byte, v byte) {
	b = b[:cap(b)]
	for i := range b {
		b[i] = v
	}
}

func TestBytesBitByBit(t *testing.T) { // P8.2
	wantBytes(t, New(0))
	wantBytes(t, New(1), 0)
	wantBytes(t, made(t, 1, 0), 1)
	wantBytes(t, New(7), 0)
	wantBytes(t, fullBut(t, 7), 0x7f)
	wantBytes(t, New(8), 0)
	wantBytes(t, fullBut(t, 8), 0xff)
	wantBytes(t, New(9), 0, 0)
	wantBytes(t, fullBut(t, 9), 0xff, 1)
	for i := range 8 {
		wantBytes(t, made(t, 8, i), 1<<i)
		wantBytes(t, made(t, 19, i+8), 0, 1<<i, 0)
		wantBytes(t, made(t, 72, i+64), 0, 0, 0, 0, 0, 0, 0, 0, 1<<i)
	}
	wantBytes(t, made(t, 66, 0, 9, 18, 27, 36, 45, 54, 63, 65), 1, 2, 4, 8, 16, 32, 64, 128, 2)
}

func TestBytesOfTheMostNumbers(t *testing.T) { // P8.2
	m := made(t, 65536, 0, 8, 4097, 65535)
	b := m.Bytes()
	if len(b) != 8192 || b[0] != 1 || b[1] != 1 || b[512] != 2 || b[8191] != 128 {
		t.Errorf("Bytes = %d bytes, %d, %d, %d, %d", len(b), b[0], b[1], b[512], b[8191])
	}
	wantUsed(t, mustLoad(t, b, 65536), 65536, 0, 8, 4097, 65535)
}

func TestLoadAnswersAsTheMapDid(t *testing.T) { // P8.2
	for _, n := range sizes {
		var some []int
		for i := range n {
			if i%3 == 0 || i%64 > 50 || i == n-1 {
				some = append(some, i)
			}
		}
		for _, used := range [][]int{nil, some, upTo(0, n)} {
			m := made(t, n, used...)
			l := mustLoad(t, m.Bytes(), n)
			wantUsed(t, l, n, used...)
			for _, k := range []int{2, 1, 0, n, n + 1} {
				want, wantE := m.Run(k)
				wantRun(t, l, k, want, wantE)
			}
			want, wantE := m.Take()
			wantTake(t, l, want, wantE)
			if !bytes.Equal(l.Bytes(), m.Bytes()) {
				t.Errorf("of %d numbers: the map and the loaded one went apart", n)
			}
		}
	}
}

func TestLoadOfAnotherLength(t *testing.T) { // P8.2, P0.4
	for _, n := range sizes {
		b := New(n).Bytes()
		wantNotLoaded(t, append(slices.Clone(b), 0), n, api.EBADMSG)
		wantNotLoaded(t, make([]byte, 2*len(b)+8), n, api.EBADMSG)
		if n > 0 {
			wantNotLoaded(t, b[:len(b)-1], n, api.EBADMSG)
			wantNotLoaded(t, nil, n, api.EBADMSG)
			wantNotLoaded(t, []byte{}, n, api.EBADMSG)
		}
	}
	wantUsed(t, mustLoad(t, nil, 0), 0)
	wantUsed(t, mustLoad(t, []byte{}, 0), 0)
}

func TestLoadOfABitBehindTheLastNumber(t *testing.T) { // P8.2
	for _, n := range []int{1, 2, 7, 9, 15, 57, 63, 65, 66, 100, 121, 127, 129, 65529, 65535} {
		for i := n; i < (n+7)/8*8; i++ {
			b := fullBut(t, n).Bytes()
			b[i/8] |= 1 << (i % 8)
			wantNotLoaded(t, b, n, api.EBADMSG)
			b = New(n).Bytes()
			b[i/8] |= 1 << (i % 8)
			wantNotLoaded(t, b, n, api.EBADMSG)
		}
		wantUsed(t, mustLoad(t, made(t, n, n-1).Bytes(), n), n, n-1)
	}
}

func TestLoadOutOfRange(t *testing.T) { // P8.2, P0.1, P0.2
	for _, n := range []int{math.MinInt, -65536, -8, -1, 65537, 65544, 1 << 40, math.MaxInt} {
		for _, b := range [][]byte{nil, {}, {0}, {0xff}, make([]byte, 8192), make([]byte, 8193)} {
			wantNotLoaded(t, b, n, api.EINVAL)
		}
	}
}

func TestCopyGoesItsOwnWay(t *testing.T) { // P8.2, P0.5
	for _, n := range sizes[1:] {
		m := made(t, n, n/2)
		c := m.Copy()
		if c == m {
			t.Fatalf("the copy of %d numbers is the map itself", n)
		}
		wantUsed(t, c, n, n/2)
		mustGive(t, c, n/2)
		wantUsed(t, m, n, n/2)
		wantUsed(t, c, n)
		wantRun(t, c, n, 0, api.OK)
		wantUsed(t, m, n, n/2)
		mustGive(t, m, n/2)
		wantTake(t, m, 0, api.OK)
		wantUsed(t, m, n, 0)
		wantUsed(t, c, n, upTo(0, n)...)
	}
}

func TestCopyOfNoNumbers(t *testing.T) { // P8.2
	m := New(0)
	c := m.Copy()
	if c == nil || c == m {
		t.Fatalf("Copy = %p of %p", c, m)
	}
	wantUsed(t, c, 0)
	wantTake(t, c, 0, api.ENOSPC)
	wantRun(t, c, 1, 0, api.EINVAL)
}

func TestTheCallersBytes(t *testing.T) { // P0.3
	for _, n := range sizes[1:] {
		m := made(t, n, n-1)
		fill(m.Bytes(), 0xff)
		wantUsed(t, m, n, n-1)

		given := append(make([]byte, 0, (n+7)/8+16), m.Bytes()...)
		fill(given[len(given):], 0xa5)
		was := slices.Clone(given[:cap(given)])
		l := mustLoad(t, given, n)
		wantTake(t, l, 0, takenOf(n))
		first, second := l.Bytes(), l.Bytes()
		if !bytes.Equal(given[:cap(given)], was) {
			t.Errorf("of %d numbers: what Load was handed has changed", n)
		}
		want := slices.Clone(first)
		fill(given, 0xff)
		fill(first, 0x55)
		if !bytes.Equal(second, want) || !bytes.Equal(l.Bytes(), want) {
			t.Errorf("of %d numbers: Bytes shares memory", n)
		}
	}
}

// takenOf tells what Take answers of n numbers of which the last is used.
func takenOf(n int) api.Errno {
	if n == 1 {
		return api.ENOSPC
	}
	return api.OK
}

func TestTwoMapsKnowNothingOfEachOther(t *testing.T) { // P0.5
	a, b := New(70), New(70)
	wantRun(t, a, 66, 0, api.OK)
	wantUsed(t, b, 70)
	wantTake(t, b, 0, api.OK)
	wantUsed(t, a, 70, upTo(0, 66)...)
	image := a.Bytes()
	c, d := mustLoad(t, image, 70), mustLoad(t, image, 70)
	mustGive(t, c, 65)
	wantUsed(t, d, 70, upTo(0, 66)...)
	wantUsed(t, a, 70, upTo(0, 66)...)
}

// wantNoNumbers holds each method against what a map of no numbers answers.
func wantNoNumbers(t *testing.T, m *Map) {
	t.Helper()
	if m.Size() != 0 || m.Free() != 0 || len(m.Bytes()) != 0 {
		t.Errorf("Size, Free, Bytes = %d, %d, %x", m.Size(), m.Free(), m.Bytes())
	}
	wantTake(t, m, 0, api.ENOSPC)
	for _, i := range []int{math.MinInt, -1, 0, 1, 64, math.MaxInt} {
		if m.Used(i) {
			t.Errorf("Used(%d)", i)
		}
		wantRun(t, m, i, 0, api.EINVAL)
		wantSet(t, m, i, api.EINVAL)
		wantGive(t, m, i, api.EINVAL)
	}
}

func TestNoNumbers(t *testing.T) { // P8.1, P8.2, P0.1
	for _, m := range []*Map{nil, {}, New(0), mustLoad(t, nil, 0)} {
		wantNoNumbers(t, m)
		wantNoNumbers(t, m.Copy())
	}
}
