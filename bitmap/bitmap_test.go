package bitmap

import (
	"bytes"
	"math"
	"slices"
	"testing"

	"lagoon/api"
)

// sizes are those of which a map's bytes are told apart: none, parts of a byte, of a word, and the most.
var sizes = []int{0, 1, 7, 8, 9, 63, 64, 65, 127, 128, 129, 65535, 65536}

// outside are numbers of no map of n numbers.
func outside(n int) []int {
	return []int{math.MinInt, -65536, -64, -1, n, n + 1, n + 64, 65537, math.MaxInt}
}

// made gives a map of n numbers of which these are used.
func made(t *testing.T, n int, used ...int) *Map {
	t.Helper()
	m := New(n)
	if m == nil {
		t.Fatalf("New(%d) is nil", n)
	}
	for _, i := range used {
		mustSet(t, m, i)
	}
	return m
}

// fullBut gives a map of n numbers of which just these are free.
func fullBut(t *testing.T, n int, free ...int) *Map {
	t.Helper()
	m := made(t, n)
	for i := range n {
		if !slices.Contains(free, i) {
			mustSet(t, m, i)
		}
	}
	return m
}

func mustSet(t *testing.T, m *Map, i int) {
	t.Helper()
	if e := m.Set(i); e != api.OK {
		t.Fatalf("Set(%d) = %d", i, e)
	}
}

func mustGive(t *testing.T, m *Map, i int) {
	t.Helper()
	if e := m.Give(i); e != api.OK {
		t.Fatalf("Give(%d) = %d", i, e)
	}
}

func mustLoad(t *testing.T, b []byte, n int) *Map {
	t.Helper()
	m, e := Load(b, n)
	if e != api.OK || m == nil {
		t.Fatalf("Load of %d bytes, %d = %v, %d", len(b), n, m, e)
	}
	return m
}

func wantTake(t *testing.T, m *Map, want int, wantE api.Errno) {
	t.Helper()
	if i, e := m.Take(); i != want || e != wantE {
		t.Errorf("Take = %d, %d; want %d, %d", i, e, want, wantE)
	}
}

func wantRun(t *testing.T, m *Map, k, want int, wantE api.Errno) {
	t.Helper()
	if i, e := m.Run(k); i != want || e != wantE {
		t.Errorf("Run(%d) = %d, %d; want %d, %d", k, i, e, want, wantE)
	}
}

func wantSet(t *testing.T, m *Map, i int, want api.Errno) {
	t.Helper()
	if e := m.Set(i); e != want {
		t.Errorf("Set(%d) = %d, want %d", i, e, want)
	}
}

func wantGive(t *testing.T, m *Map, i int, want api.Errno) {
	t.Helper()
	if e := m.Give(i); e != want {
		t.Errorf("Give(%d) = %d, want %d", i, e, want)
	}
}

// wantUsed holds Size, Free, Used and Bytes against the numbers that are to be used.
func wantUsed(t *testing.T, m *Map, n int, used ...int) {
	t.Helper()
	if m.Size() != n || m.Free() != n-len(used) {
		t.Errorf("Size, Free = %d, %d; want %d, %d", m.Size(), m.Free(), n, n-len(used))
	}
	in := make([]bool, n)
	image := make([]byte, (n+7)/8)
	for _, i := range used {
		in[i] = true
		image[i/8] |= 1 << (i % 8)
	}
	for i, want := range in {
		if m.Used(i) != want {
			t.Fatalf("Used(%d) = %v, want %v", i, !want, want)
		}
	}
	for _, i := range outside(n) {
		if m.Used(i) {
			t.Errorf("Used(%d) of %d numbers", i, n)
		}
	}
	if !bytes.Equal(m.Bytes(), image) {
		t.Errorf("Bytes = %x, want %x", m.Bytes(), image)
	}
}

// upTo gives the numbers from a on, below b.
func upTo(a, b int) []int {
	var all []int
	for i := a; i < b; i++ {
		all = append(all, i)
	}
	return all
}

func TestNewHasItsNumbersAllFree(t *testing.T) { // P8.1, P8.2
	for _, n := range sizes {
		m := New(n)
		if m == nil {
			t.Fatalf("New(%d) is nil", n)
		}
		wantUsed(t, m, n)
	}
}

func TestNewOutOfRangeIsNil(t *testing.T) { // P8.1
	for _, n := range []int{-1, -64, math.MinInt, 65537, 65600, 1 << 32, math.MaxInt} {
		if New(n) != nil {
			t.Errorf("New(%d) is not nil", n)
		}
	}
}

func TestTakeGivesTheLeastUntilNoneIsFree(t *testing.T) { // P8.1, P8.2
	for _, n := range sizes {
		m := made(t, n)
		for i := range n {
			wantTake(t, m, i, api.OK)
			if !m.Used(i) || m.Used(i+1) || m.Free() != n-i-1 || m.Size() != n {
				t.Fatalf("behind Take of %d of %d: Used %v, %v, Free %d", i, n, m.Used(i), m.Used(i+1), m.Free())
			}
		}
		for range 2 {
			wantTake(t, m, 0, api.ENOSPC)
			wantUsed(t, m, n, upTo(0, n)...)
		}
	}
}

func TestTakeGoesRoundUsedOnes(t *testing.T) { // P8.1
	m := made(t, 10, 0, 1, 3, 9)
	wantTake(t, m, 2, api.OK)
	wantTake(t, m, 4, api.OK)
	wantUsed(t, m, 10, 0, 1, 2, 3, 4, 9)
	far := made(t, 65536)
	wantRun(t, far, 65535, 0, api.OK)
	wantTake(t, far, 65535, api.OK)
	wantTake(t, far, 0, api.ENOSPC)
}

func TestTakeMeetsALesserOneBehindAGive(t *testing.T) { // P8.1
	m := made(t, 130)
	for i := range 100 {
		wantTake(t, m, i, api.OK)
	}
	mustGive(t, m, 70)
	mustGive(t, m, 7)
	wantTake(t, m, 7, api.OK)
	wantTake(t, m, 70, api.OK)
	wantTake(t, m, 100, api.OK)
	for i := 101; i < 130; i++ {
		wantTake(t, m, i, api.OK)
	}
	wantTake(t, m, 0, api.ENOSPC)
	mustGive(t, m, 0)
	wantTake(t, m, 0, api.OK)
	wantTake(t, m, 0, api.ENOSPC)
}

func TestRunOfWrongLengths(t *testing.T) { // P8.1, P0.1, P0.2
	for _, n := range sizes {
		m := made(t, n, upTo(0, min(n, 1))...)
		for _, k := range []int{math.MinInt, -1, 0, n + 1, n + 64, math.MaxInt} {
			wantRun(t, m, k, 0, api.EINVAL)
		}
		wantUsed(t, m, n, upTo(0, min(n, 1))...)
	}
	// It is refused for its length even where none is free.
	m := fullBut(t, 5)
	wantRun(t, m, 6, 0, api.EINVAL)
	wantRun(t, m, 0, 0, api.EINVAL)
	wantRun(t, m, 1, 0, api.ENOSPC)
	wantUsed(t, m, 5, 0, 1, 2, 3, 4)
}

func TestRunOfAllAndOfOne(t *testing.T) { // P8.1, P8.2
	for _, n := range sizes[1:] {
		m := made(t, n)
		wantRun(t, m, n, 0, api.OK)
		wantUsed(t, m, n, upTo(0, n)...)
		wantRun(t, m, n, 0, api.ENOSPC)
		wantRun(t, m, 1, 0, api.ENOSPC)
		mustGive(t, m, n-1)
		if n > 1 {
			wantRun(t, m, n, 0, api.ENOSPC)
			wantRun(t, m, 2, 0, api.ENOSPC)
		}
		wantRun(t, m, 1, n-1, api.OK)
		wantUsed(t, m, n, upTo(0, n)...)
	}
}

func TestRunOfTheLongestRowAndOneMore(t *testing.T) { // P8.1, P0.2
	// Rows of 2 at 1, 4 at 5, 3 at 12.
	at := []int{0, 3, 4, 9, 10, 11, 15}
	m := made(t, 16, at...)
	wantRun(t, m, 5, 0, api.ENOSPC)
	wantUsed(t, m, 16, at...)
	wantRun(t, m, 4, 5, api.OK)
	wantUsed(t, m, 16, slices.Concat(at, []int{5, 6, 7, 8})...)
	wantRun(t, m, 4, 0, api.ENOSPC)
	wantRun(t, m, 3, 12, api.OK)
	wantRun(t, m, 3, 0, api.ENOSPC)
	wantRun(t, m, 2, 1, api.OK)
	wantRun(t, m, 1, 0, api.ENOSPC)
}

func TestRunTakesTheRowThatBeginsLeast(t *testing.T) { // P8.1
	m := made(t, 20, 2, 6, 12)
	// Rows of 2 at 0, 3 at 3, 5 at 7, 7 at 13: the first that is long enough, neither the best fit nor the longest.
	wantRun(t, m, 3, 3, api.OK)
	wantRun(t, m, 3, 7, api.OK)
	wantRun(t, m, 1, 0, api.OK)
	wantRun(t, m, 1, 1, api.OK)
	wantRun(t, m, 2, 10, api.OK)
	wantRun(t, m, 2, 13, api.OK)
	wantUsed(t, m, 20, upTo(0, 15)...)
}

func TestRunUpToTheLastNumber(t *testing.T) { // P8.1
	for _, n := range []int{5, 8, 9, 63, 64, 65, 128, 200, 65536} {
		for _, k := range []int{1, 2, 3, 4} {
			m := made(t, n)
			wantRun(t, m, n-k, 0, api.OK)
			// The bits behind the last number belong to no row.
			wantRun(t, m, k+1, 0, api.ENOSPC)
			wantRun(t, m, k, n-k, api.OK)
			wantUsed(t, m, n, upTo(0, n)...)
		}
	}
}

func TestRunAcrossWords(t *testing.T) { // P8.1
	for _, k := range []int{2, 63, 64, 65, 127, 128, 129, 190} {
		for _, first := range []int{1, 7, 8, 62, 63, 64, 65} {
			n := first + k + 10
			m := made(t, n, slices.Concat(upTo(0, first), []int{first + k})...)
			wantRun(t, m, k, first, api.OK)
			wantUsed(t, m, n, upTo(0, first+k+1)...)
		}
	}
}

func TestSetAndGive(t *testing.T) { // P8.1, P8.2
	for _, n := range sizes[1:] {
		for _, i := range []int{0, n / 2, n - 1} {
			m := made(t, n)
			wantGive(t, m, i, api.ENOENT)
			wantGive(t, m, i, api.ENOENT)
			wantUsed(t, m, n)
			wantSet(t, m, i, api.OK)
			wantUsed(t, m, n, i)
			wantSet(t, m, i, api.EBUSY)
			wantSet(t, m, i, api.EBUSY)
			wantUsed(t, m, n, i)
			wantGive(t, m, i, api.OK)
			wantUsed(t, m, n)
			wantGive(t, m, i, api.ENOENT)
			wantSet(t, m, i, api.OK)
			wantUsed(t, m, n, i)
		}
	}
}

func TestSetAndGiveOutOfRange(t *testing.T) { // P8.1, P8.2, P0.1, P0.2
	for _, n := range sizes {
		for _, used := range [][]int{nil, upTo(0, n)} {
			m := made(t, n, used...)
			for _, i := range outside(n) {
				wantSet(t, m, i, api.EINVAL)
				wantGive(t, m, i, api.EINVAL)
			}
			wantUsed(t, m, n, used...)
		}
	}
}

func TestTakenAndSetAndRunAreUsedAlike(t *testing.T) { // P8.1
	m := made(t, 9)
	wantTake(t, m, 0, api.OK)
	wantSet(t, m, 2, api.OK)
	wantRun(t, m, 2, 3, api.OK)
	for _, i := range []int{0, 2, 3, 4} {
		wantSet(t, m, i, api.EBUSY)
		wantGive(t, m, i, api.OK)
		wantGive(t, m, i, api.ENOENT)
	}
	wantUsed(t, m, 9)
}
