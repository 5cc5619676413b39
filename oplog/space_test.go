package oplog

import (
	"testing"

	"lagoon/api"
	"lagoon/device"
	"lagoon/localfs"
)

// great is nearly what an operation may cost at most.
const great = 65560

func TestTheRoomIsThatOfTheWords(t *testing.T) { // P13.4: so that the tests below speak of the right one
	for capacity, want := range map[int]int{32: 0, 33: 128, 100: 8704, 4093: 519808} {
		if localfs.Capacity(blocksOf(capacity)) != capacity || roomOf(capacity) != want {
			t.Errorf("capacity %d: %d, a room of %d", capacity, localfs.Capacity(blocksOf(capacity)), roomOf(capacity))
		}
	}
}

// wantFull sees that nothing goes into a log any more, and that it is kept.
func wantFull(t *testing.T, d *device.Device, l *Log, p plain) {
	t.Helper()
	if n, e := l.Add(p.sized(t, 0, 40)); n != 0 || e != api.ENOSPC || l.Cost() != l.room {
		t.Errorf("Add to a full log = %d, %d, at a cost of %d", n, e, l.Cost())
	}
	p = mustSet(t, l, p, string(make([]byte, 256)))
	wantLog(t, l, p)
	if e := l.Sync(); e != api.OK {
		t.Errorf("Sync = %d", e)
	}
	wantLog(t, opened(t, mounted(t, d.Crash(nil)), p.room), p)
}

func TestFilledInSmallAdds(t *testing.T) { // P13.4
	for _, capacity := range []int{33, 34, 35, 40, 64, 100, 247} {
		for _, cost := range []int{33, 40, 64, 500, 528, 1000} {
			d, l, p := made(t, capacity)
			for i := 0; len(p.ops) < 300; i++ {
				left := p.room - l.Cost()
				if left < cost+60 {
					break
				}
				p = mustAdd(t, l, p, p.sized(t, i%2, cost))
			}
			if p.room-l.Cost() >= 200 {
				// The rest in one, for the plain log is slow.
				p = mustAdd(t, l, p, p.sized(t, 0, p.room-l.Cost()-150))
			}
			p = mustAdd(t, l, p, p.sized(t, 0, p.room-l.Cost()))
			wantFull(t, d, l, p)
		}
	}
}

func TestTheGreatestLogInSmallAdds(t *testing.T) { // P13.4
	const capacity = 4093
	d, l, _ := made(t, capacity)
	count := int64(0)
	last := api.Op{}
	for time := int64(2); ; time++ {
		o := write(0, time, nil, count)
		n, e := l.Add(o)
		if e == api.ENOSPC {
			if l.Fits(o) || l.Cost()+plainCost(o) <= l.room {
				t.Errorf("ENOSPC at a cost of %d", l.Cost())
			}
			break
		}
		if n != 1 || e != api.OK {
			t.Fatalf("Add %d = %d, %d", time, n, e)
		}
		count++
		last = o
		if time%997 == 0 {
			l.SetMeta([]byte{byte(time)})
		}
	}
	if l.Cost() <= l.room-40 || count < 10000 {
		t.Errorf("%d operations, a cost of %d", count, l.Cost())
	}
	l.Sync()
	k := opened(t, mounted(t, d.Crash(nil)), l.room)
	o, ok := k.Get(0, count)
	wantSame(t, "the last one", []api.Op{o}, []api.Op{last})
	if v := k.Vector(); !ok || len(v) != 1 || v[0] != count || k.Cost() != l.Cost() {
		t.Errorf("opened again: %v, a cost of %d", v, k.Cost())
	}
}

func TestFilledInGreatAdds(t *testing.T) { // P13.4
	for _, capacity := range []int{33, 100, 247, 545, 600, 1060, 4093} {
		d, l, p := made(t, capacity)
		if p.room > 70000 {
			p = mustAdd(t, l, p, write(63, 1<<40, make([]byte, api.MaxFile), make(api.Vector, 64)...))
		}
		for i := 0; p.room-l.Cost() > 66000; i++ {
			p = mustAdd(t, l, p, p.sized(t, i%3, great))
		}
		if left := p.room - l.Cost(); left > great {
			p = mustAdd(t, l, p, p.sized(t, 0, 1000))
		}
		p = mustAdd(t, l, p, p.sized(t, 0, p.room-l.Cost()))
		wantFull(t, d, l, p)
	}
}

func TestFilledInOneAdd(t *testing.T) { // P13.4
	for _, capacity := range []int{33, 100, 247, 600, 4093} {
		for _, cost := range []int{500, 20000, great} {
			d, l, p := made(t, capacity)
			next := p
			var os []api.Op
			for left := p.room; left > 0; left = p.room - plainCost(next.ops...) {
				size := cost
				if left < cost+100 {
					size = min(left, great)
				}
				if rest := left - size; rest > 0 && rest < 100 {
					size -= 100
				}
				o := next.sized(t, 4, size)
				os = append(os, o)
				next = next.with(t, o)
				if len(os) > 200 {
					cost = 65000
				}
			}
			p = mustAdd(t, l, p, os...)
			wantFull(t, d, l, p)
		}
	}
}

func TestFilledBehindCrashes(t *testing.T) { // P13.4: what crashes have left takes no room
	for seed := range 6 {
		r := noise(seed)
		capacity := 34 + 40*seed
		d, l, p := made(t, capacity)
		h := &history{states: []plain{p}}
		for range 8 {
			d.Fuse(r.below(60))
			p = h.now()
			if left := p.room - l.Cost(); left > 200 {
				o := p.sized(t, 2, 100+r.below(left-100))
				h.states = append(h.states, p.with(t, o))
				l.Add(o)
			}
			d = d.Crash(all)
			l, h = h.found(t, d)
		}
		p = h.now()
		for left := p.room - l.Cost(); left > 0; left = p.room - l.Cost() {
			size := 90
			if left < 200 || len(p.ops) > 90 {
				size = left
			}
			p = mustAdd(t, l, p, p.sized(t, 1, size))
		}
		wantFull(t, d, l, p)
	}
}

func TestARoomThatTheFileSystemHasNot(t *testing.T) { // P13.2: EIO, and none is taken
	for _, capacity := range []int{4, 5, 9, 40, 300} {
		d := formatted(t, capacity)
		p := plain{room: 1 << 40}
		l := opened(t, mounted(t, d), p.room)
		refused := 0
		for _, cost := range []int{great, great, great, 20000, 9000, 9000, 3000, 900, 400, 100, 60} {
			for range 3 {
				o := p.sized(t, 1, cost)
				n, e := l.Add(o, p.with(t, o).sized(t, 2, cost))
				if n == 2 && e == api.OK {
					p = p.with(t, o, p.with(t, o).sized(t, 2, cost))
				} else if n != 0 || e != api.EIO {
					t.Fatalf("Add = %d, %d", n, e)
				} else {
					refused++
				}
				wantLog(t, l, p)
				wantLog(t, opened(t, mounted(t, d.Crash(all)), p.room), p)
			}
			if e := l.SetMeta([]byte(p.meta + "x")); e == api.OK {
				p.meta += "x"
			} else if e != api.EIO || capacity > 4 {
				t.Errorf("capacity %d: SetMeta = %d", capacity, e)
			}
			wantLog(t, l, p)
		}
		if refused == 0 || l.files.Cost() > capacity || len(p.ops) == 0 && capacity > 9 {
			t.Errorf("capacity %d: %d refused, %d taken: the test itself is wrong", capacity, refused, len(p.ops))
		}
	}
}

func TestAnAddThatFailedTellsNothingToLaterOnes(t *testing.T) { // P0.2: with and without a great one in between, the same small ones go
	for _, capacity := range []int{6, 9, 40, 140, 300} {
		var counts []int
		for _, tries := range []int{0, 1, 3} {
			l := opened(t, mounted(t, formatted(t, capacity)), 1<<40)
			p := plain{room: 1 << 40}
			for i := range 200 {
				for range tries * (1 - min(1, i%20)) {
					o := p.sized(t, 1, great)
					os := []api.Op{o}
					for q := p.with(t, o); len(os) < 4; q = q.with(t, os[len(os)-1]) {
						os = append(os, q.sized(t, 1, great))
					}
					if n, e := l.Add(os...); n != 0 || e != api.EIO {
						t.Fatalf("Add = %d, %d", n, e)
					}
				}
				o := p.sized(t, 2, 1200)
				if n, e := l.Add(o); n == 0 && e == api.EIO {
					break
				}
				p = p.with(t, o)
			}
			counts = append(counts, len(p.ops))
			wantLog(t, l, p)
		}
		if counts[0] != counts[1] || counts[0] != counts[2] {
			t.Errorf("capacity %d: %v small ones are taken", capacity, counts)
		}
	}
}
