package device

import (
	"bytes"
	"math"
	"slices"
	"testing"

	"lagoon/api"
)

func full(v byte) []byte { return bytes.Repeat([]byte{v}, api.Block) }

func mustWrite(t *testing.T, d *Device, i int, v byte) {
	t.Helper()
	if e := d.Write(i, full(v)); e != api.OK {
		t.Fatalf("Write(%d) = %d", i, e)
	}
}

func mustFlush(t *testing.T, d *Device) {
	t.Helper()
	if e := d.Flush(); e != api.OK {
		t.Fatalf("Flush = %d", e)
	}
}

// wantBlocks holds d's blocks against one byte a block, of which the block is full.
func wantBlocks(t *testing.T, d *Device, want ...byte) {
	t.Helper()
	if d.Blocks() != len(want) {
		t.Fatalf("Blocks = %d, want %d", d.Blocks(), len(want))
	}
	for i, v := range want {
		if b, e := d.Read(i); e != api.OK || !bytes.Equal(b, full(v)) {
			t.Errorf("Read(%d) = %v, %d, want %d", i, b, e, v)
		}
	}
}

func wantState(t *testing.T, d *Device, dead bool, count int, loose ...int) {
	t.Helper()
	if d.Dead() != dead || d.Count() != count || !slices.Equal(d.Loose(), loose) {
		t.Errorf("dead %v, count %d, loose %v; want %v, %d, %v", d.Dead(), d.Count(), d.Loose(), dead, count, loose)
	}
}

func TestNewTakesOneToMaxBlocks(t *testing.T) { // P1.1
	for _, n := range []int{math.MinInt, -65536, -1, 0, 65537, 65536 * 2, 1 << 32, math.MaxInt} {
		if New(n) != nil {
			t.Errorf("New(%d) is not nil", n)
		}
	}
	for _, n := range []int{1, 2, 511, 65535, 65536} {
		d := New(n)
		if d == nil || d.Blocks() != n {
			t.Fatalf("New(%d): %d blocks", n, d.Blocks())
		}
		wantState(t, d, false, 0)
		for _, i := range []int{0, n / 2, n - 1} {
			if b, e := d.Read(i); e != api.OK || !bytes.Equal(b, full(0)) {
				t.Errorf("Read(%d) of a new device of %d: %v, %d", i, n, b, e)
			}
		}
	}
}

func TestAllBlocksOfTheGreatestDevice(t *testing.T) { // P1.1, P1.2
	d := New(api.MaxBlocks)
	b := full(0)
	for i := range d.Blocks() {
		b[0], b[1], b[511] = byte(i), byte(i>>8), byte(i*7)
		if e := d.Write(i, b); e != api.OK {
			t.Fatalf("Write(%d) = %d", i, e)
		}
	}
	for i := range d.Blocks() {
		b[0], b[1], b[511] = byte(i), byte(i>>8), byte(i*7)
		if r, e := d.Read(i); e != api.OK || !bytes.Equal(r, b) {
			t.Fatalf("Read(%d) = %v, %d", i, r, e)
		}
	}
	if len(d.Loose()) != api.MaxBlocks || d.Count() != api.MaxBlocks {
		t.Errorf("%d loose, count %d", len(d.Loose()), d.Count())
	}
}

func TestReadOutOfRange(t *testing.T) { // P1.1
	d := New(3)
	for _, i := range []int{math.MinInt, -1, 3, 4, 65536, math.MaxInt} {
		if b, e := d.Read(i); e != api.EINVAL || b != nil {
			t.Errorf("Read(%d) = %v, %d", i, b, e)
		}
	}
}

func TestReadGivesWhatWasWrittenLast(t *testing.T) { // P1.1
	d := New(2)
	mustWrite(t, d, 1, 4)
	wantBlocks(t, d, 0, 4)
	mustFlush(t, d)
	wantBlocks(t, d, 0, 4)
	mustWrite(t, d, 1, 5)
	mustWrite(t, d, 1, 6)
	d.Fuse(0)
	wantBlocks(t, d, 0, 6)
	if b, e := d.Read(2); e != api.EINVAL || b != nil {
		t.Errorf("Read(2) of a dead device = %v, %d", b, e)
	}
}

func TestWriteRefusesWrongInputs(t *testing.T) { // P1.2
	d := New(2)
	mustWrite(t, d, 0, 1)
	d.Fuse(2)
	for _, size := range []int{0, 1, 256, 511, 513, 1024} {
		if e := d.Write(1, make([]byte, size)); e != api.EINVAL {
			t.Errorf("Write of %d bytes = %d", size, e)
		}
	}
	if e := d.Write(1, nil); e != api.EINVAL {
		t.Errorf("Write of nil = %d", e)
	}
	if e := d.Write(1, make([]byte, 511, 512)); e != api.EINVAL {
		t.Errorf("Write of 511 bytes with room for 512 = %d", e)
	}
	for _, i := range []int{math.MinInt, -1, 2, 65536, math.MaxInt} {
		if e := d.Write(i, full(9)); e != api.EINVAL {
			t.Errorf("Write(%d) = %d", i, e)
		}
	}
	// Refused calls do not show: not in the blocks, not in the count, not in the fuse.
	wantBlocks(t, d, 1, 0)
	wantState(t, d, false, 1, 0)
	mustWrite(t, d, 1, 2)
	wantState(t, d, false, 2, 0, 1)
	mustFlush(t, d)
	wantState(t, d, true, 3)
}

func TestWriteTakesABlock(t *testing.T) { // P1.2
	d := New(1)
	b := full(0)
	for i := range b {
		b[i] = byte(i * 3)
	}
	if e := d.Write(0, b); e != api.OK {
		t.Fatalf("Write = %d", e)
	}
	if r, e := d.Read(0); e != api.OK || !bytes.Equal(r, b) {
		t.Errorf("Read = %v, %d", r, e)
	}
}

func TestFlushMakesFast(t *testing.T) { // P1.2
	d := New(3)
	mustFlush(t, d)
	wantState(t, d, false, 1)
	mustWrite(t, d, 2, 7)
	mustWrite(t, d, 0, 8)
	mustFlush(t, d)
	wantState(t, d, false, 4)
	wantBlocks(t, d.Crash(nil), 8, 0, 7)
}

func TestADeadDeviceDoesNothing(t *testing.T) { // P1.2
	d := New(2)
	mustWrite(t, d, 0, 1)
	d.Fuse(0)
	// EIO comes ahead of EINVAL.
	for _, i := range []int{0, 1, -1, 2} {
		for _, b := range [][]byte{full(9), nil, make([]byte, 513)} {
			if e := d.Write(i, b); e != api.EIO {
				t.Errorf("Write(%d) of %d bytes = %d", i, len(b), e)
			}
		}
	}
	if e := d.Flush(); e != api.EIO {
		t.Errorf("Flush = %d", e)
	}
	wantBlocks(t, d, 1, 0)
	wantState(t, d, true, 1, 0)
	wantBlocks(t, d.Crash(nil), 0, 0)
}

func TestFuseBurns(t *testing.T) { // P1.3
	for _, n := range []int{math.MinInt, -1, 0, 1, 2, 3, 10} {
		for _, flushes := range []bool{false, true} {
			d := New(1)
			mustFlush(t, d)
			d.Fuse(n)
			for k := range max(n, 0) {
				wantState(t, d, false, k+1, d.Loose()...)
				if flushes || k%2 == 1 {
					mustFlush(t, d)
				} else {
					mustWrite(t, d, 0, byte(k))
				}
			}
			wantState(t, d, true, max(n, 0)+1, d.Loose()...)
			if e := d.Write(0, full(1)); e != api.EIO {
				t.Errorf("Fuse(%d): Write = %d", n, e)
			}
			if e := d.Flush(); e != api.EIO {
				t.Errorf("Fuse(%d): Flush = %d", n, e)
			}
		}
	}
}

func TestFuseTakesThePlaceOfAnother(t *testing.T) { // P1.3
	for _, first := range []int{1, 2, 5, math.MaxInt} {
		for _, second := range []int{-1, 0, 1, 2, 7} {
			d := New(1)
			d.Fuse(first)
			if first > 1 {
				mustFlush(t, d)
			}
			d.Fuse(second)
			for range max(second, 0) {
				mustFlush(t, d)
			}
			if !d.Dead() {
				t.Errorf("Fuse(%d), Fuse(%d): alive", first, second)
			}
		}
	}
}

func TestFuseDoesNotWakeTheDead(t *testing.T) { // P1.3
	for _, n := range []int{-1, 0, 1, 100, math.MaxInt} {
		d := New(1)
		d.Fuse(1)
		mustWrite(t, d, 0, 1)
		d.Fuse(n)
		wantState(t, d, true, 1, 0)
		if e := d.Flush(); e != api.EIO {
			t.Errorf("Fuse(%d) of a dead one: Flush = %d", n, e)
		}
	}
}

func TestWithoutAFuseItLives(t *testing.T) { // P1.3
	d := New(1)
	for k := range 1000 {
		mustWrite(t, d, 0, byte(k))
		mustFlush(t, d)
	}
	wantState(t, d, false, 2000)
}

func TestCountTellsWhatWasDone(t *testing.T) { // P1.3
	d := New(2)
	mustWrite(t, d, 0, 1)
	mustWrite(t, d, 0, 1)
	mustFlush(t, d)
	mustFlush(t, d)
	d.Read(0)
	d.Read(9)
	d.Write(2, full(1))
	d.Write(0, nil)
	d.Crash(nil)
	wantState(t, d, false, 4)
	d.Fuse(0)
	d.Write(0, full(1))
	d.Flush()
	wantState(t, d, true, 4)
}

func TestLooseRises(t *testing.T) { // P1.3
	d := New(70)
	for _, i := range []int{69, 0, 12, 3, 12, 69, 64, 12} {
		mustWrite(t, d, i, byte(i))
	}
	wantState(t, d, false, 8, 0, 3, 12, 64, 69)
	mustFlush(t, d)
	wantState(t, d, false, 9)
	mustWrite(t, d, 12, 12) // the same bytes again are a write, too
	wantState(t, d, false, 10, 12)
}

// crashed has blocks 0 and 4 fast, 1 loose over a flushed one, 2 loose and written twice, 3 loose for the first time.
func crashed(t *testing.T) *Device {
	d := New(6)
	for i := range 3 {
		mustWrite(t, d, i, byte(10+i))
	}
	mustWrite(t, d, 4, 14)
	mustFlush(t, d)
	mustWrite(t, d, 3, 23)
	mustWrite(t, d, 2, 22)
	mustWrite(t, d, 1, 21)
	mustWrite(t, d, 2, 32)
	return d
}

func TestCrashByEveryKeep(t *testing.T) { // P1.4
	for mask := range 8 {
		want := []byte{10, 11, 12, 0, 14, 0}
		for bit, v := range []byte{21, 32, 23} {
			if mask>>bit&1 == 1 {
				want[1+bit] = v
			}
		}
		d := crashed(t)
		var asked []int
		c := d.Crash(func(i int) bool {
			asked = append(asked, i)
			return mask>>(i-1)&1 == 1
		})
		wantBlocks(t, c, want...)
		wantState(t, c, false, 0)
		if !slices.Equal(asked, []int{1, 2, 3}) {
			t.Errorf("asked %v", asked)
		}
		wantBlocks(t, c.Crash(nil), want...)
		wantBlocks(t, d, 10, 21, 32, 23, 14, 0)
		wantState(t, d, false, 9, 1, 2, 3)
	}
}

func TestCrashWithNilKeepsNone(t *testing.T) { // P1.4
	d := crashed(t)
	wantBlocks(t, d.Crash(nil), 10, 11, 12, 0, 14, 0)
	wantBlocks(t, d, 10, 21, 32, 23, 14, 0)
	never := New(2)
	mustWrite(t, never, 0, 1)
	mustWrite(t, never, 0, 2)
	wantBlocks(t, never.Crash(nil), 0, 0)
}

func TestCrashAsksNobodyIfNothingIsLoose(t *testing.T) { // P1.4
	d := New(2)
	mustWrite(t, d, 1, 3)
	mustFlush(t, d)
	c := d.Crash(func(i int) bool {
		t.Errorf("asked of %d", i)
		return false
	})
	wantBlocks(t, c, 0, 3)
}

func TestCrashOfADeadDevice(t *testing.T) { // P1.4
	d := crashed(t)
	d.Fuse(1)
	mustWrite(t, d, 5, 25)
	c := d.Crash(func(i int) bool { return i == 5 })
	wantBlocks(t, c, 10, 11, 12, 0, 14, 25)
	wantState(t, c, false, 0)
	mustWrite(t, c, 0, 40)
	mustFlush(t, c)
	mustFlush(t, c)
	wantState(t, c, false, 3)
	wantState(t, d, true, 10, 1, 2, 3, 5)
}

func TestCrashTakesNoFuseAlong(t *testing.T) { // P1.4
	d := New(1)
	d.Fuse(1)
	c := d.Crash(nil)
	for range 5 {
		mustFlush(t, c)
	}
	wantState(t, c, false, 5)
	wantState(t, d, false, 0)
	mustFlush(t, d)
	wantState(t, d, true, 1)
}

func TestCrashedAndOldKnowNothingOfEachOther(t *testing.T) { // P1.4
	d := crashed(t)
	c := d.Crash(func(int) bool { return true })
	mustWrite(t, c, 0, 50)
	mustWrite(t, c, 1, 51)
	mustWrite(t, d, 1, 61)
	mustWrite(t, d, 5, 65)
	wantBlocks(t, c, 50, 51, 32, 23, 14, 0)
	wantBlocks(t, d, 10, 61, 32, 23, 14, 65)
	wantBlocks(t, c.Crash(nil), 10, 21, 32, 23, 14, 0)
	wantBlocks(t, d.Crash(nil), 10, 11, 12, 0, 14, 0)
}

func TestCrashWithAKeepThatPanics(t *testing.T) { // P0.1, P1.4
	d := crashed(t)
	c := d.Crash(func(i int) bool {
		if i == 2 {
			panic("keep")
		}
		return true
	})
	wantBlocks(t, c, 10, 21, 12, 23, 14, 0)
}

func TestCrashWithAKeepThatCallsTheDevice(t *testing.T) { // P1.4
	d := crashed(t)
	var asked []int
	c := d.Crash(func(i int) bool {
		asked = append(asked, i)
		mustWrite(t, d, 5, 99)
		mustWrite(t, d, i, 99)
		mustFlush(t, d)
		return i == 3
	})
	if !slices.Equal(asked, []int{1, 2, 3}) {
		t.Errorf("asked %v", asked)
	}
	wantBlocks(t, c, 10, 11, 12, 23, 14, 0)
}

func TestNilDevice(t *testing.T) { // P1.5
	var d *Device
	d.Fuse(5)
	if d.Blocks() != 0 || d.Count() != 0 || len(d.Loose()) != 0 || !d.Dead() {
		t.Error("a nil device has something")
	}
	for _, i := range []int{-1, 0, 1} {
		if b, e := d.Read(i); e != api.EINVAL || b != nil {
			t.Errorf("Read(%d) = %v, %d", i, b, e)
		}
		if e := d.Write(i, full(1)); e != api.EIO {
			t.Errorf("Write(%d) = %d", i, e)
		}
	}
	if e := d.Flush(); e != api.EIO {
		t.Errorf("Flush = %d", e)
	}
	c := d.Crash(func(int) bool {
		t.Error("keep was asked")
		return true
	})
	if c != nil || d.Crash(nil) != nil {
		t.Error("Crash is not nil")
	}
}

func TestZeroDeviceDoesNotPanic(t *testing.T) { // P0.1
	d := new(Device)
	if e := d.Write(0, full(1)); e != api.EINVAL {
		t.Errorf("Write = %d", e)
	}
	if _, e := d.Read(0); e != api.EINVAL {
		t.Errorf("Read = %d", e)
	}
	mustFlush(t, d)
	if d.Blocks() != 0 || len(d.Loose()) != 0 || d.Crash(nil).Blocks() != 0 {
		t.Error("a zero device has blocks")
	}
}

func TestWriteKeepsNothingOfItsArgument(t *testing.T) { // P0.3, P1.5
	d := New(2)
	room := append(full(3), full(4)...)
	b := room[:api.Block]
	if e := d.Write(1, b); e != api.OK {
		t.Fatalf("Write = %d", e)
	}
	if !bytes.Equal(room, append(full(3), full(4)...)) {
		t.Error("Write changed what was handed in")
	}
	b[0], b[511] = 9, 9
	wantBlocks(t, d, 0, 3)
	mustFlush(t, d)
	b[1] = 9
	wantBlocks(t, d.Crash(nil), 0, 3)
}

// scribble writes over all of b, its spare room too.
func scribble(b []byte) {
	b = b[:cap(b)]
	for i := range b {
		b[i] = 0xEE
	}
}

func TestReadAnswersNewMemory(t *testing.T) { // P0.3, P1.5
	d := New(3)
	mustWrite(t, d, 1, 5)
	mustFlush(t, d)
	mustWrite(t, d, 2, 6)
	c := d.Crash(func(int) bool { return true })
	for i := range 3 {
		first, _ := d.Read(i)
		second, _ := d.Read(i)
		was := slices.Clone(second)
		scribble(first)
		if !bytes.Equal(second, was) {
			t.Errorf("two answers of Read(%d) share memory", i)
		}
		scribble(second)
	}
	wantBlocks(t, d, 0, 5, 6)
	wantBlocks(t, c, 0, 5, 6)
	wantBlocks(t, d.Crash(nil), 0, 5, 0)
}

func TestLooseAnswersNewMemory(t *testing.T) { // P0.3, P1.5
	d := New(5)
	mustWrite(t, d, 4, 1)
	mustWrite(t, d, 2, 1)
	first, second := d.Loose(), d.Loose()
	for i := range first[:cap(first)] {
		first[:cap(first)][i] = 77
	}
	if !slices.Equal(second, []int{2, 4}) || !slices.Equal(d.Loose(), []int{2, 4}) {
		t.Errorf("Loose = %v, then %v", second, d.Loose())
	}
}

// model is the chapter's text in the plainest form, with whole copies.
type model struct {
	now, safe [8]byte
	loose     [8]bool
	fuse      int // -1: none
	dead      bool
	count     int
}

func (m *model) done() {
	m.count++
	if m.fuse > 0 {
		m.fuse--
		m.dead = m.fuse == 0
	}
}

func (m *model) write(i int, v byte, size int) api.Errno {
	switch {
	case m.dead:
		return api.EIO
	case i < 0 || i >= len(m.now) || size != api.Block:
		return api.EINVAL
	}
	m.now[i], m.loose[i] = v, true
	m.done()
	return api.OK
}

func (m *model) flush() api.Errno {
	if m.dead {
		return api.EIO
	}
	m.safe, m.loose = m.now, [8]bool{}
	m.done()
	return api.OK
}

func (m *model) setFuse(n int) {
	if !m.dead {
		m.fuse, m.dead = n, n < 1
	}
}

func (m *model) looseNumbers() (list []int) {
	for i, l := range m.loose {
		if l {
			list = append(list, i)
		}
	}
	return list
}

func (m *model) crash(mask int) *model {
	c := &model{now: m.now, fuse: -1}
	for _, i := range m.looseNumbers() {
		if mask>>i&1 == 0 {
			c.now[i] = m.safe[i]
		}
	}
	c.safe = c.now
	return c
}

func TestAgainstAModel(t *testing.T) { // P1.1 to P1.4
	seed := uint32(1)
	next := func(n int) int {
		seed = seed*1664525 + 1013904223
		return int(seed>>8) % n
	}
	d, m := New(8), &model{fuse: -1}
	for step := range 20000 {
		switch roll := next(40); {
		case roll < 25:
			i, v, size := next(10)-1, byte(next(256)), api.Block
			if next(8) == 0 {
				size += next(3) - 1
			}
			if e, want := d.Write(i, bytes.Repeat([]byte{v}, size)), m.write(i, v, size); e != want {
				t.Fatalf("step %d: Write(%d) of %d bytes = %d, want %d", step, i, size, e, want)
			}
		case roll < 34:
			if e, want := d.Flush(), m.flush(); e != want {
				t.Fatalf("step %d: Flush = %d, want %d", step, e, want)
			}
		case roll < 36:
			n := next(12) - 1
			d.Fuse(n)
			m.setFuse(n)
		case roll < 38:
			mask := next(256)
			d, m = d.Crash(func(i int) bool { return mask>>i&1 == 1 }), m.crash(mask)
		default:
			mask := next(256)
			wantBlocks(t, d.Crash(func(i int) bool { return mask>>i&1 == 1 }), m.crash(mask).now[:]...)
		}
		wantBlocks(t, d, m.now[:]...)
		wantState(t, d, m.dead, m.count, m.looseNumbers()...)
		if t.Failed() {
			t.Fatalf("step %d", step)
		}
	}
}
