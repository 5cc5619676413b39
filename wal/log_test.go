package wal

import (
	"bytes"
	"math"
	"slices"
	"testing"

	"lagoon/api"
	"lagoon/device"
)

// logged gives a device with a volume of two blocks and three synced records, and where each one stands.
func logged(t *testing.T) (*device.Device, []int) {
	t.Helper()
	d, v := made(t, 16)
	var at []int
	for k := range byte(3) {
		mustCommit(t, v, put(0, k+1))
		at = append(at, v.next-pagesFor(1))
	}
	mustSync(t, v)
	return d, at
}

func TestASpoiledPageEndsTheLog(t *testing.T) { // P6.3: a record is whole, or is none
	for record := range 3 {
		for page := range pagesFor(1) {
			for _, i := range []int{0, 4, 8, 16, 24, 100, 511} {
				d, at := logged(t)
				b, _ := d.Read(at[record] + page)
				b[i] ^= 1
				d.Write(at[record]+page, b)
				wantVolume(t, mounted(t, d), int64(record), byte(record), 0)
			}
		}
	}
}

func TestARecordThatNoCommitWrites(t *testing.T) { // P6.3, P0.1
	some := func(puts ...api.Put) []byte { return recordOf(puts) }
	count := func(n int64) []byte { return append(appendNumber(nil, n), full(7)...) }
	for k, record := range [][]byte{
		some(), count(0), count(-1), count(3), count(1 << 40), count(math.MaxInt64), count(math.MinInt64), count(2),
		some(put(-1, 7)), some(put(2, 7)), some(put(math.MaxInt, 7)), some(put(0, 7), put(2, 7)), some(put(0, 7), put(1, 7), put(0, 7)),
	} {
		d, at := logged(t)
		v := mounted(t, d)
		next := at[2] + pagesFor(1)
		for body := range slices.Chunk(record, bodySize) {
			d.Write(next, seal(append(appendNumber(nil, v.turn), body...)))
			next++
		}
		w := mounted(t, d)
		if w.Commits() != 3 {
			t.Errorf("record %d: %d commits", k, w.Commits())
		}
		wantVolume(t, w, 3, 3, 0)
		mustCommit(t, w, put(1, 5))
		wantVolume(t, mounted(t, d), 4, 3, 5)
	}
}

func TestNoiseInTheLog(t *testing.T) { // P0.1: any bytes
	for seed := range 300 {
		d, v := made(t, 16)
		n := noise(seed)
		for i := v.start(); i < d.Blocks(); i++ {
			b := appendNumber(nil, v.turn)
			b = appendNumber(b, int64(n.below(4)))
			b = appendNumber(b, int64(n.below(3)))
			d.Write(i, seal(append(b, n.bytes(bodySize-16)...)))
		}
		w := mounted(t, d)
		stateOf(t, w)
		mustCommit(t, w, put(0, 1), put(1, 2))
		wantVolume(t, mounted(t, d), w.Commits(), 1, 2)
	}
}

func TestAVolumeWhoseHeadWasOverwritten(t *testing.T) { // P0.1, P6.2: it goes on from what it knows
	d, v := made(t, 16)
	mustCommit(t, v, put(0, 1))
	d.Write(0, full(9))
	wantVolume(t, v, 1, 1, 0)
	mustCommit(t, v, put(1, 2))
	mustSync(t, v)
	wantVolume(t, v, 2, 1, 2)
	wantVolume(t, mounted(t, d.Crash(nil)), 2, 1, 2)
}

func TestALogTakesTheGreatestCommit(t *testing.T) { // P6.2: as many puts as blocks, whatever the device's size
	for blocks := 16; blocks <= api.MaxBlocks; blocks++ {
		n := (blocks - 8) / 4
		if room := blocks - 1 - n; pagesFor(n) > room {
			t.Fatalf("%d blocks: %d pages, room for %d", blocks, pagesFor(n), room)
		}
	}
}

func TestRecords(t *testing.T) {
	n := noise(1)
	var puts []api.Put
	for range 130 {
		puts = append(puts, api.Put{Block: n.below(300), Data: n.bytes(api.Block)})
		b := recordOf(puts)
		if got := (len(b) + bodySize - 1) / bodySize; got != pagesFor(len(puts)) {
			t.Errorf("%d puts: %d pages, told %d", len(puts), got, pagesFor(len(puts)))
		}
		same := func(a, b api.Put) bool { return a.Block == b.Block && bytes.Equal(a.Data, b.Data) }
		if !slices.EqualFunc(putsOf(append(b, 1, 2, 3)), puts, same) {
			t.Errorf("%d puts: read otherwise than written", len(puts))
		}
	}
	for _, x := range []int64{0, 1, 255, 256, 1 << 40, math.MaxInt64, -1, math.MinInt64} {
		if got := number(appendNumber(nil, x)); got != x {
			t.Errorf("%d is read as %d", x, got)
		}
	}
}

func TestFormatCostsWhatItWrites(t *testing.T) {
	d := device.New(api.MaxBlocks)
	if e := Format(d); e != api.OK || d.Count() > 10 {
		t.Errorf("Format of a new device: %d, %d writes and flushes", e, d.Count())
	}
}
