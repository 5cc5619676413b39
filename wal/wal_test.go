package wal

import (
	"bytes"
	"math"
	"slices"
	"testing"

	"lagoon/api"
	"lagoon/device"
)

func full(v byte) []byte { return bytes.Repeat([]byte{v}, api.Block) }

func put(block int, v byte) api.Put { return api.Put{Block: block, Data: full(v)} }

// noise gives numbers that hang on the seed alone.
type noise uint64

func (n *noise) below(limit int) int {
	*n = *n*6364136223846793005 + 1442695040888963407
	return int(uint64(*n)>>33) % limit
}

func (n *noise) bytes(size int) []byte {
	b := make([]byte, size)
	for i := range b {
		b[i] = byte(n.below(256))
	}
	return b
}

func made(t *testing.T, blocks int) (*device.Device, *Volume) {
	t.Helper()
	d := device.New(blocks)
	if e := Format(d); e != api.OK {
		t.Fatalf("Format of %d blocks = %d", blocks, e)
	}
	return d, mounted(t, d)
}

func mounted(t *testing.T, d *device.Device) *Volume {
	t.Helper()
	v, e := Mount(d)
	if e != api.OK || v == nil {
		t.Fatalf("Mount = %v, %d", v, e)
	}
	return v
}

func mustCommit(t *testing.T, v *Volume, puts ...api.Put) {
	t.Helper()
	if e := v.Commit(puts...); e != api.OK {
		t.Fatalf("Commit of %d puts = %d", len(puts), e)
	}
}

func mustSync(t *testing.T, v *Volume) {
	t.Helper()
	if e := v.Sync(); e != api.OK {
		t.Fatalf("Sync = %d", e)
	}
}

// stateOf is all that Read tells.
func stateOf(t *testing.T, v *Volume) []byte {
	t.Helper()
	var all []byte
	for i := range v.Blocks() {
		b, e := v.Read(i)
		if e != api.OK || len(b) != api.Block {
			t.Fatalf("Read(%d) = %d bytes, %d", i, len(b), e)
		}
		all = append(all, b...)
	}
	return all
}

// wantVolume holds the volume against one byte a block, of which the block is full.
func wantVolume(t *testing.T, v *Volume, commits int64, want ...byte) {
	t.Helper()
	if v.Blocks() != len(want) || v.Commits() != commits {
		t.Fatalf("%d blocks, %d commits; want %d, %d", v.Blocks(), v.Commits(), len(want), commits)
	}
	for i, x := range want {
		if b, e := v.Read(i); e != api.OK || !bytes.Equal(b, full(x)) {
			t.Errorf("Read(%d) = %v, %d; want %d", i, b, e, x)
		}
	}
}

// imageOf is all that a device's calls tell.
func imageOf(d *device.Device) []byte {
	var all []byte
	for i := range d.Blocks() {
		b, _ := d.Read(i)
		all = append(all, b...)
	}
	for _, i := range d.Loose() {
		all = appendNumber(all, int64(i))
	}
	return appendNumber(all, int64(d.Count()))
}

func all(int) bool { return true }

func TestFormatAndMountNeedSixteenBlocks(t *testing.T) { // P6.1
	if e := Format(nil); e != api.EINVAL {
		t.Errorf("Format(nil) = %d", e)
	}
	if v, e := Mount(nil); v != nil || e != api.EINVAL {
		t.Errorf("Mount(nil) = %v, %d", v, e)
	}
	for blocks := 1; blocks < 16; blocks++ {
		d := device.New(blocks)
		before := imageOf(d)
		if e := Format(d); e != api.EINVAL {
			t.Errorf("Format of %d blocks = %d", blocks, e)
		}
		if v, e := Mount(d); v != nil || e != api.EINVAL {
			t.Errorf("Mount of %d blocks = %v, %d", blocks, v, e)
		}
		if !bytes.Equal(imageOf(d), before) {
			t.Errorf("%d blocks: changed", blocks)
		}
	}
	if e := Format(device.New(0)); e != api.EINVAL {
		t.Errorf("Format of 0 blocks = %d", e)
	}
}

func TestBlocksOfAVolume(t *testing.T) { // P6.1, P6.2, Words
	for blocks, want := range map[int]int{16: 2, 17: 2, 18: 2, 19: 2, 20: 3, 23: 3, 24: 4, 31: 5, 32: 6, 1000: 248, 65535: 16381, 65536: 16382} {
		d, v := made(t, blocks)
		if v.Blocks() != want || v.Commits() != 0 {
			t.Errorf("%d blocks: %d, %d commits; want %d", blocks, v.Blocks(), v.Commits(), want)
		}
		if len(d.Loose()) != 0 {
			t.Errorf("%d blocks: loose %v", blocks, d.Loose())
		}
		if !bytes.Equal(stateOf(t, v), make([]byte, want*api.Block)) {
			t.Errorf("%d blocks: not zeros", blocks)
		}
		wantVolume(t, mounted(t, d.Crash(nil)), 0, make([]byte, want)...)
	}
}

func TestDeadDevices(t *testing.T) { // P6.1: EIO stands behind EINVAL, ahead of EBADMSG
	for _, blocks := range []int{15, 16} {
		d := device.New(blocks)
		d.Fuse(0)
		want := api.EIO
		if blocks < 16 {
			want = api.EINVAL
		}
		if e := Format(d); e != want {
			t.Errorf("Format of %d dead blocks = %d", blocks, e)
		}
		if v, e := Mount(d); v != nil || e != want {
			t.Errorf("Mount of %d dead blocks = %v, %d", blocks, v, e)
		}
	}
	d, _ := made(t, 16)
	d.Fuse(0)
	before := imageOf(d)
	if v, e := Mount(d); v != nil || e != api.EIO || Format(d) != api.EIO {
		t.Errorf("of a dead volume: %v, %d", v, e)
	}
	if !bytes.Equal(imageOf(d), before) {
		t.Error("a dead volume changed")
	}
	wantVolume(t, mounted(t, d.Crash(nil)), 0, 0, 0)
}

// littered gives a device on which something other than a volume was written.
func littered(t *testing.T, seed, blocks int) *device.Device {
	t.Helper()
	d, n := device.New(blocks), noise(seed)
	for i := range blocks {
		b := n.bytes(api.Block)
		switch seed % 4 {
		case 1:
			b = full(0xff)
		case 2:
			b = seal(b[:contentSize])
		case 3:
			b = full(byte(i))
		}
		if e := d.Write(i, b); e != api.OK {
			t.Fatal(e)
		}
	}
	if seed%3 != 0 {
		d.Flush()
	}
	return d
}

func TestMountOfWhatIsNoVolume(t *testing.T) { // P6.1
	devices := []*device.Device{device.New(16), device.New(20), device.New(65536)}
	for seed := range 12 {
		devices = append(devices, littered(t, seed, 16+seed))
	}
	for k, d := range devices {
		before := imageOf(d)
		for range 2 {
			if v, e := Mount(d); v != nil || e != api.EBADMSG {
				t.Errorf("device %d: %v, %d", k, v, e)
			}
		}
		if !bytes.Equal(imageOf(d), before) {
			t.Errorf("device %d: a Mount that was refused changed it", k)
		}
	}
}

func TestMountOfASpoiledHead(t *testing.T) { // P6.1: no volume was formatted so
	d, _ := made(t, 16)
	head, _ := d.Read(0)
	for i := range head {
		for _, x := range []byte{1, 0x80, 0xff} {
			b := slices.Clone(head)
			b[i] ^= x
			d.Write(0, b)
			if v, e := Mount(d); v != nil || e != api.EBADMSG {
				t.Fatalf("byte %d, %d turned: %v, %d", i, x, v, e)
			}
		}
	}
	for _, v := range []*Volume{{d: d, turn: -1}, {d: d, turn: math.MinInt64}, {d: d, turn: math.MaxInt64}, {d: d, turn: most}, {d: d, turn: 1, commits: -1}, {d: d, turn: 1, commits: math.MaxInt64}} {
		d.Write(0, v.head())
		if v, e := Mount(d); v != nil || e != api.EBADMSG {
			t.Errorf("turn %d, %d commits: %v, %d", v.turn, v.commits, v, e)
		}
	}
	for _, other := range []string{"", "lagoon: a volume of fishes", mark + "!"} {
		d.Write(0, seal(append(head[8:32:32], other...)))
		if v, e := Mount(d); v != nil || e != api.EBADMSG {
			t.Errorf("marked %q: %v, %d", other, v, e)
		}
	}
	d.Write(0, head)
	wantVolume(t, mounted(t, d), 0, 0, 0)
}

func TestMountOfAnotherSizesBytes(t *testing.T) { // P6.1: on this one no volume was formatted
	d, v := made(t, 20)
	mustCommit(t, v, put(0, 1))
	for _, blocks := range []int{16, 19, 21, 23, 24, 40} {
		other := device.New(blocks)
		for i := range min(blocks, 20) {
			b, _ := d.Read(i)
			other.Write(i, b)
		}
		if v, e := Mount(other); v != nil || e != api.EBADMSG {
			t.Errorf("%d blocks: %v, %d", blocks, v, e)
		}
	}
}

// worn gives a device that held a volume with commits, some of them not synced.
func worn(t *testing.T) *device.Device {
	t.Helper()
	d, v := made(t, 20)
	for k := range 9 {
		mustCommit(t, v, put(k%3, byte(k+1)), put((k+1)%3, byte(k+100)))
		if k == 6 {
			mustSync(t, v)
		}
	}
	return d
}

func TestFormatOfAVolume(t *testing.T) { // P6.1
	for _, d := range []*device.Device{worn(t), worn(t).Crash(nil), worn(t).Crash(all), littered(t, 0, 20), littered(t, 1, 20), littered(t, 2, 20)} {
		for range 2 {
			if e := Format(d); e != api.OK || len(d.Loose()) != 0 {
				t.Fatalf("Format = %d, loose %v", e, d.Loose())
			}
			wantVolume(t, mounted(t, d), 0, 0, 0, 0)
			wantVolume(t, mounted(t, d.Crash(nil)), 0, 0, 0, 0)
		}
		v := mounted(t, d)
		mustCommit(t, v, put(1, 7))
		wantVolume(t, v, 1, 0, 7, 0)
		wantVolume(t, mounted(t, d.Crash(nil)), 0, 0, 0, 0)
		wantVolume(t, mounted(t, d.Crash(all)), 1, 0, 7, 0)
	}
}

// fill brings a volume of two blocks just so far that its log has no block left.
func fill(t *testing.T, v *Volume, x byte) {
	t.Helper()
	for range 5 {
		mustCommit(t, v, put(0, x))
	}
	mustCommit(t, v, put(0, x+1), put(1, x+1))
	if v.next != v.d.Blocks() {
		t.Fatalf("the log has blocks left behind %d", v.next)
	}
}

func TestFormatLeavesNothingOfAnOldLog(t *testing.T) { // P6.1, P6.3
	d, v := made(t, 16)
	fill(t, v, 1)
	mustSync(t, v)
	if e := Format(d); e != api.OK {
		t.Fatal(e)
	}
	v = mounted(t, d)
	for k := range byte(5) {
		mustCommit(t, v, put(0, k+10))
		wantVolume(t, mounted(t, d.Crash(all)), int64(k)+1, k+10, 0)
	}
	mustCommit(t, v, put(0, 20), put(1, 20))
	wantVolume(t, mounted(t, d.Crash(func(i int) bool { return i != 15 })), 5, 14, 0)
	wantVolume(t, mounted(t, d.Crash(all)), 6, 20, 20)
}

func keeps() map[string]func(int) bool {
	k := map[string]func(int) bool{
		"nil":   nil,
		"all":   all,
		"none":  func(int) bool { return false },
		"even":  func(i int) bool { return i%2 == 0 },
		"odd":   func(i int) bool { return i%2 == 1 },
		"head":  func(i int) bool { return i == 0 },
		"rest":  func(i int) bool { return i != 0 },
		"early": func(i int) bool { return i < 9 },
		"late":  func(i int) bool { return i >= 9 },
	}
	for seed := range 4 {
		n := noise(seed)
		k["noise"+string(rune('0'+seed))] = func(int) bool { return n.below(2) == 0 }
	}
	return k
}

func TestFormatThatDies(t *testing.T) { // P6.1
	for name, from := range map[string]func() *device.Device{
		"new":      func() *device.Device { return device.New(20) },
		"littered": func() *device.Device { return littered(t, 0, 20) },
		"sealed":   func() *device.Device { return littered(t, 2, 20) },
		"volume":   func() *device.Device { return worn(t) },
	} {
		whole := from()
		before := whole.Count()
		if e := Format(whole); e != api.OK {
			t.Fatal(e)
		}
		for fuse := range whole.Count() - before {
			d := from()
			d.Fuse(fuse)
			if e := Format(d); e != api.EIO || !d.Dead() {
				t.Fatalf("%s, fuse %d: %d", name, fuse, e)
			}
			if v, e := Mount(d); v != nil || e != api.EIO {
				t.Errorf("%s, fuse %d: Mount = %v, %d", name, fuse, v, e)
			}
			for kept, keep := range keeps() {
				v, e := Mount(d.Crash(keep))
				if e == api.EBADMSG && v == nil {
					continue
				}
				if e != api.OK {
					t.Fatalf("%s, fuse %d, %s: %d", name, fuse, kept, e)
				}
				// Until the first write is flushed the old volume may still be all that there is.
				if old := name == "volume" && fuse < 2 && v.Commits() >= 7; !old {
					wantVolume(t, v, 0, 0, 0, 0)
				}
			}
		}
		d := from()
		d.Fuse(whole.Count() - before)
		if e := Format(d); e != api.OK {
			t.Errorf("%s: a fuse that is long enough: %d", name, e)
		}
		wantVolume(t, mounted(t, d.Crash(nil)), 0, 0, 0, 0)
	}
}

func TestReadInAndOutOfRange(t *testing.T) { // P6.2
	_, v := made(t, 31)
	mustCommit(t, v, put(0, 10), put(4, 14))
	for _, i := range []int{math.MinInt, -1, 5, 6, 31, 1 << 40, math.MaxInt} {
		if b, e := v.Read(i); b != nil || e != api.EINVAL {
			t.Errorf("Read(%d) = %v, %d", i, b, e)
		}
	}
	wantVolume(t, v, 1, 10, 0, 0, 0, 14)
}

func TestCommitDoesAllInOrder(t *testing.T) { // P6.2
	_, v := made(t, 31)
	mustCommit(t, v)
	wantVolume(t, v, 0, 0, 0, 0, 0, 0)
	mustCommit(t, v, put(3, 1))
	wantVolume(t, v, 1, 0, 0, 0, 1, 0)
	mustCommit(t, v, put(1, 2), put(1, 3), put(4, 4))
	wantVolume(t, v, 2, 0, 3, 0, 1, 4)
	mustCommit(t, v, put(4, 5), put(3, 6), put(2, 7), put(1, 8), put(0, 9))
	wantVolume(t, v, 3, 9, 8, 7, 6, 5)
	mustCommit(t, v, put(2, 1), put(2, 2), put(2, 3), put(2, 4), put(2, 5))
	wantVolume(t, v, 4, 9, 8, 5, 6, 5)
	mustCommit(t, v, put(2, 5))
	mustCommit(t, v, put(0, 0))
	mustCommit(t, v, nil...)
	wantVolume(t, v, 6, 0, 8, 5, 6, 5)
}

// wrongPuts are lists that no volume of three blocks takes.
func wrongPuts() [][]api.Put {
	data := func(n int) api.Put { return api.Put{Block: 1, Data: make([]byte, n)} }
	return [][]api.Put{
		{put(-1, 1)}, {put(3, 1)}, {put(math.MinInt, 1)}, {put(math.MaxInt, 1)}, {put(1<<32, 1)},
		{{Block: 1}}, {data(0)}, {data(1)}, {data(511)}, {data(513)}, {data(1024)}, {{Block: -1}},
		{put(0, 1), put(1, 2), put(3, 3)}, {put(0, 1), put(-1, 2), put(2, 3)}, {put(0, 1), data(511)}, {data(513), put(0, 1)},
		{put(0, 1), put(1, 2), put(2, 3), put(0, 4)}, {put(1, 1), put(1, 1), put(1, 1), put(1, 1)},
		slices.Repeat([]api.Put{put(0, 1)}, 1000),
	}
}

func TestCommitRefusesWrongPuts(t *testing.T) { // P6.2, P0.2
	d, v := made(t, 20)
	mustCommit(t, v, put(0, 5), put(2, 6))
	before := imageOf(d)
	for k, puts := range wrongPuts() {
		if e := v.Commit(puts...); e != api.EINVAL {
			t.Errorf("puts %d: %d", k, e)
		}
		wantVolume(t, v, 1, 5, 0, 6)
	}
	if !bytes.Equal(imageOf(d), before) {
		t.Error("a refused Commit changed the device")
	}
	wantVolume(t, mounted(t, d.Crash(all)), 1, 5, 0, 6)
	d.Fuse(0)
	for k, puts := range wrongPuts() {
		if e := v.Commit(puts...); e != api.EINVAL { // named ahead of EIO
			t.Errorf("puts %d of a dead device: %d", k, e)
		}
	}
	if v.Commit() != api.EIO || v.Commit(put(0, 1)) != api.EIO || v.Sync() != api.EIO {
		t.Error("a dead device takes something")
	}
	wantVolume(t, v, 1, 5, 0, 6)
}

func TestManyCommits(t *testing.T) { // P6.2: each place of the log is used again and again
	for _, blocks := range []int{16, 19, 20, 41} {
		for _, syncs := range []int{0, 1, 3, 7} {
			d, v := made(t, blocks)
			n := noise(blocks*10 + syncs)
			plain := make([]byte, v.Blocks()*api.Block)
			for k := range 200 {
				puts := somePuts(&n, v.Blocks())
				mustCommit(t, v, puts...)
				plain = plainPut(plain, puts)
				if !bytes.Equal(stateOf(t, v), plain) || v.Commits() != int64(k+1) {
					t.Fatalf("%d blocks, commit %d: wrong, or not counted (%d)", blocks, k, v.Commits())
				}
				if syncs > 0 && k%syncs == 0 {
					mustSync(t, v)
					if len(d.Loose()) != 0 {
						t.Fatalf("behind a Sync: loose %v", d.Loose())
					}
					w := mounted(t, d.Crash(nil))
					if !bytes.Equal(stateOf(t, w), plain) || w.Commits() != int64(k+1) {
						t.Fatalf("%d blocks, synced commit %d: lost", blocks, k)
					}
				}
			}
			if w := mounted(t, d); !bytes.Equal(stateOf(t, w), plain) || w.Commits() != 200 {
				t.Errorf("%d blocks: mounted again: %d", blocks, w.Commits())
			}
		}
	}
}

// somePuts are 1 to as many puts as there are blocks, now and then several of one block.
func somePuts(n *noise, blocks int) []api.Put {
	puts := make([]api.Put, 1+n.below(blocks))
	for i := range puts {
		puts[i] = api.Put{Block: n.below(blocks), Data: n.bytes(api.Block)}
	}
	return puts
}

// plainPut gives the state behind the puts.
func plainPut(state []byte, puts []api.Put) []byte {
	state = slices.Clone(state)
	for _, p := range puts {
		copy(state[p.Block*api.Block:], p.Data)
	}
	return state
}

func TestTheGreatestVolume(t *testing.T) { // P6.2
	d, v := made(t, api.MaxBlocks)
	puts := make([]api.Put, v.Blocks())
	for round := range 4 {
		for i := range puts {
			b := make([]byte, api.Block)
			b[0], b[1], b[511] = byte(i), byte(i>>8), byte(i*3+round)
			puts[i] = api.Put{Block: i, Data: b}
		}
		mustCommit(t, v, puts...)
		if e := v.Commit(append(puts, puts[0])...); e != api.EINVAL {
			t.Fatalf("one put more than blocks: %d", e)
		}
	}
	mustSync(t, v)
	want := plainPut(make([]byte, v.Blocks()*api.Block), puts)
	w := mounted(t, d.Crash(nil))
	if !bytes.Equal(stateOf(t, v), want) || !bytes.Equal(stateOf(t, w), want) || v.Commits() != 4 || w.Commits() != 4 {
		t.Errorf("wrong: %d, %d commits", v.Commits(), w.Commits())
	}
}

func TestDeathInCommitAndSync(t *testing.T) { // P6.2
	for fuse := range 80 {
		d, v := made(t, 16)
		d.Fuse(fuse)
		want := []byte{0, 0}
		commits := int64(0)
		for k := byte(1); ; k++ {
			e := v.Commit(put(int(k)%2, k), put(1, k))
			if e == api.OK {
				want[k%2], want[1] = k, k
				commits++
			}
			wantVolume(t, v, commits, want...)
			if e == api.OK && k%4 == 0 {
				e = v.Sync()
			}
			if e != api.OK {
				if e != api.EIO || !d.Dead() {
					t.Fatalf("fuse %d: %d", fuse, e)
				}
				break
			}
		}
		for range 3 {
			if v.Commit(put(0, 99)) != api.EIO || v.Commit() != api.EIO || v.Sync() != api.EIO {
				t.Errorf("fuse %d: behind the death no EIO", fuse)
			}
			wantVolume(t, v, commits, want...)
		}
		if b, e := v.Read(2); b != nil || e != api.EINVAL {
			t.Errorf("fuse %d: Read out of range of a dead device: %v, %d", fuse, b, e)
		}
	}
}

func TestNilAndZeroVolume(t *testing.T) { // P6.4, P0.1
	var none *Volume
	if none.Blocks() != 0 || none.Commits() != 0 || none.Sync() != api.EIO {
		t.Errorf("%d, %d, %d", none.Blocks(), none.Commits(), none.Sync())
	}
	for _, i := range []int{math.MinInt, -1, 0, 1, math.MaxInt} {
		if b, e := none.Read(i); b != nil || e != api.EINVAL {
			t.Errorf("Read(%d) = %v, %d", i, b, e)
		}
	}
	for k, puts := range append(wrongPuts(), nil, []api.Put{}, []api.Put{put(0, 1)}) {
		if e := none.Commit(puts...); e != api.EIO {
			t.Errorf("puts %d: %d", k, e)
		}
	}
	zero := &Volume{}
	if b, e := zero.Read(0); b != nil || e != api.EINVAL || zero.Blocks() != 0 || zero.Commits() != 0 || zero.Sync() != api.EIO || zero.Commit() != api.EIO || zero.Commit(put(0, 1)) != api.EINVAL {
		t.Error("of a volume without a device")
	}
}

func spoil(b []byte) {
	b = b[:cap(b)]
	for i := range b {
		b[i] ^= 0xa5
	}
}

func TestWhatIsHandedInIsNeitherChangedNorKept(t *testing.T) { // P0.3
	d, v := made(t, 20)
	room := append(make([]byte, 0, 1024), full(1)...)
	spare := room[:1024]
	copy(spare[512:], full(9))
	puts := append(make([]api.Put, 0, 5), api.Put{Block: 0, Data: room}, put(1, 2))
	more := puts[:5]
	more[2], more[3], more[4] = put(2, 7), put(0, 8), put(1, 9)
	mustCommit(t, v, puts...)
	if !bytes.Equal(spare, append(full(1), full(9)...)) {
		t.Error("the data or its spare room changed")
	}
	for i, want := range []api.Put{put(0, 1), put(1, 2), put(2, 7), put(0, 8), put(1, 9)} {
		if more[i].Block != want.Block || !bytes.Equal(more[i].Data, want.Data) {
			t.Errorf("put %d of the list changed", i)
		}
	}
	for i := range more {
		spoil(more[i].Data)
	}
	clear(more)
	wantVolume(t, v, 1, 1, 2, 0)
	wantVolume(t, mounted(t, d), 1, 1, 2, 0)
}

func TestReadAnswersNewMemory(t *testing.T) { // P0.3
	d, v := made(t, 20)
	mustCommit(t, v, put(0, 1))
	mustCommit(t, mounted(t, d), put(1, 2)) // the log was begun anew: block 0 is read from its home
	for range 2 {
		for i := range 3 {
			a, _ := v.Read(i)
			b, _ := v.Read(i)
			spoil(a)
			if want := byte([]int{1, 2, 0}[i]); !bytes.Equal(b, full(want)) {
				t.Errorf("Read(%d): two answers share memory", i)
			}
		}
		wantVolume(t, v, 2, 1, 2, 0)
		wantVolume(t, mounted(t, d), 2, 1, 2, 0)
	}
}

func TestVolumesOfTwoDevices(t *testing.T) { // P0.5
	d1, v1 := made(t, 20)
	d2, v2 := made(t, 20)
	data := full(1)
	mustCommit(t, v1, api.Put{Block: 0, Data: data})
	mustCommit(t, v2, api.Put{Block: 2, Data: data})
	mustCommit(t, v2, put(0, 3))
	wantVolume(t, v1, 1, 1, 0, 0)
	wantVolume(t, v2, 2, 3, 0, 1)
	d1.Fuse(0)
	mustCommit(t, v2, put(1, 4))
	mustSync(t, v2)
	if v1.Commit(put(0, 9)) != api.EIO {
		t.Error("the dead one is not dead")
	}
	wantVolume(t, mounted(t, d1.Crash(all)), 1, 1, 0, 0)
	wantVolume(t, mounted(t, d2.Crash(nil)), 3, 3, 4, 1)
}
