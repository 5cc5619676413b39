package clock

import (
	"math"
	"slices"
	"testing"

	"lagoon/api"
)

const great = 1152921504606846976 // 2^60

// What follows are the chapter's words, written down plainly, to hold the package against.

func plainCmp(a, b api.ID) int {
	switch {
	case a.Time < b.Time:
		return -1
	case a.Time > b.Time:
		return 1
	case a.Node < b.Node:
		return -1
	case a.Node > b.Node:
		return 1
	}
	return 0
}

func plainValid(id api.ID) bool {
	return id.Time >= 1 && id.Time <= great && id.Node >= 0 && id.Node <= 63
}

func plainNew(node int, time, lease int64) bool {
	if node < 0 || node > 63 || time < 0 || time > great || lease < 0 || lease > great {
		return false
	}
	return lease >= time
}

type plainClock struct {
	node        int
	time, lease int64
}

func (p *plainClock) raise() bool {
	if p.time <= p.lease {
		return false
	}
	p.lease = p.time + 4096
	if p.lease > great {
		p.lease = great
	}
	return true
}

func (p *plainClock) next() told {
	if p.time == great {
		return told{e: api.EOVERFLOW, now: p.time, lease: p.lease}
	}
	p.time++
	raised := p.raise()
	return told{api.ID{Time: p.time, Node: p.node}, raised, api.OK, p.time, p.lease}
}

func (p *plainClock) see(id api.ID) told {
	if !plainValid(id) {
		return told{e: api.EINVAL, now: p.time, lease: p.lease}
	}
	if id.Time > p.time {
		p.time = id.Time
	}
	raised := p.raise()
	return told{api.ID{}, raised, api.OK, p.time, p.lease}
}

// told is what a call answered, and what Now and Lease told behind it.
type told struct {
	id         api.ID
	raised     bool
	e          api.Errno
	now, lease int64
}

func next(c *Clock) told {
	id, raised, e := c.Next()
	return told{id, raised, e, c.Now(), c.Lease()}
}

func see(c *Clock, id api.ID) told {
	raised, e := c.See(id)
	return told{api.ID{}, raised, e, c.Now(), c.Lease()}
}

func same(t *testing.T, what string, got, want told) {
	t.Helper()
	if got != want {
		t.Errorf("%s: %+v, not %+v", what, got, want)
	}
}

// clockAt gives a clock of node 3, and fails the test if there is none.
func clockAt(t *testing.T, time, lease int64) *Clock {
	t.Helper()
	c := New(3, time, lease)
	if c == nil {
		t.Fatalf("New(3, %d, %d): nil", time, lease)
	}
	return c
}

func times() []int64 {
	return []int64{math.MinInt64, math.MinInt64 + 1, -great, -4097, -1, 0, 1, 2, 4096, 4097, 1 << 32, great - 4097, great - 4096, great - 4095, great - 1, great, great + 1, math.MaxInt64 - 1, math.MaxInt64}
}

func nodes() []int {
	return []int{math.MinInt, -1 << 32, -64, -1, 0, 1, 2, 62, 63, 64, 65, 256, 1 << 32, math.MaxInt}
}

func stamps() []api.ID {
	var ids []api.ID
	for _, time := range times() {
		for _, node := range nodes() {
			ids = append(ids, api.ID{Time: time, Node: node})
		}
	}
	return ids
}

// P5.1
func TestCmp(t *testing.T) {
	for _, x := range []struct {
		a, b api.ID
		want int
	}{
		{api.ID{}, api.ID{}, 0},
		{api.ID{Time: 5, Node: 2}, api.ID{Time: 5, Node: 2}, 0},
		{api.ID{Time: 5, Node: 2}, api.ID{Time: 5, Node: 3}, -1},
		{api.ID{Time: 5, Node: 2}, api.ID{Time: 6, Node: 2}, -1},
		{api.ID{Time: 5, Node: 2}, api.ID{Time: 6, Node: 1}, -1},
		{api.ID{Time: 5, Node: 2}, api.ID{Time: 6, Node: 3}, -1},
		{api.ID{Time: 5, Node: 63}, api.ID{Time: 6, Node: 0}, -1},
		{api.ID{Time: -1, Node: 0}, api.ID{Time: 0, Node: 0}, -1},
		{api.ID{Time: -2, Node: 9}, api.ID{Time: -1, Node: 0}, -1},
		{api.ID{Time: 1, Node: -1}, api.ID{Time: 1, Node: 0}, -1},
		{api.ID{Time: 1, Node: -2}, api.ID{Time: 1, Node: -1}, -1},
		{api.ID{Time: math.MinInt64, Node: 0}, api.ID{Time: math.MaxInt64, Node: 0}, -1},
		{api.ID{Time: math.MinInt64, Node: 0}, api.ID{Time: 1, Node: 0}, -1},
		{api.ID{Time: -2, Node: 0}, api.ID{Time: math.MaxInt64, Node: 0}, -1},
		{api.ID{Time: 1, Node: math.MinInt}, api.ID{Time: 1, Node: math.MaxInt}, -1},
		{api.ID{Time: 1, Node: math.MinInt}, api.ID{Time: 1, Node: 1}, -1},
		{api.ID{Time: 1, Node: math.MaxInt}, api.ID{Time: 2, Node: math.MinInt}, -1},
		{api.ID{Time: great, Node: 63}, api.ID{Time: great + 1, Node: 0}, -1},
	} {
		if got := Cmp(x.a, x.b); got != x.want {
			t.Errorf("Cmp(%v, %v): %d, not %d", x.a, x.b, got, x.want)
		}
		if got := Cmp(x.b, x.a); got != -x.want {
			t.Errorf("Cmp(%v, %v): %d, not %d", x.b, x.a, got, -x.want)
		}
		if Less(x.a, x.b) != (x.want == -1) || Less(x.b, x.a) {
			t.Errorf("Less of %v and %v: %t, %t", x.a, x.b, Less(x.a, x.b), Less(x.b, x.a))
		}
	}
	for _, a := range stamps() {
		for _, b := range stamps() {
			want := plainCmp(a, b)
			if got := Cmp(a, b); got != want {
				t.Errorf("Cmp(%v, %v): %d, not %d", a, b, got, want)
			}
			if got := Less(a, b); got != (want == -1) {
				t.Errorf("Less(%v, %v): %t", a, b, got)
			}
		}
	}
}

// P5.1: the order sorts stamps by Time, and those of one Time by Node.
func TestOrder(t *testing.T) {
	ids := stamps()
	slices.Reverse(ids)
	slices.SortFunc(ids, Cmp)
	if !slices.Equal(ids, stamps()) {
		t.Errorf("sorted: %v", ids)
	}
}

// P5.1
func TestValid(t *testing.T) {
	for _, x := range []struct {
		time int64
		node int
		want bool
	}{
		{0, 0, false}, {1, 0, true}, {2, 5, true}, {great - 1, 0, true}, {great, 0, true}, {great + 1, 0, false}, {-1, 0, false},
		{math.MinInt64, 0, false}, {math.MaxInt64, 0, false},
		{1, -1, false}, {1, 62, true}, {1, 63, true}, {1, 64, false}, {1, math.MinInt, false}, {1, math.MaxInt, false}, {1, 1 << 32, false}, {1, 256, false},
		{great, 63, true}, {great, 64, false}, {great + 1, 63, false}, {0, 63, false}, {0, -1, false}, {great + 1, 64, false},
	} {
		if got := Valid(api.ID{Time: x.time, Node: x.node}); got != x.want {
			t.Errorf("Valid of %d, %d: %t", x.time, x.node, got)
		}
	}
	for _, id := range stamps() {
		if Valid(id) != plainValid(id) {
			t.Errorf("Valid(%v): %t", id, Valid(id))
		}
	}
}

// P5.2
func TestNew(t *testing.T) {
	for _, x := range []struct {
		node        int
		time, lease int64
		want        bool
	}{
		{0, 0, 0, true}, {63, 0, 0, true}, {-1, 0, 0, false}, {64, 0, 0, false}, {math.MinInt, 0, 0, false}, {math.MaxInt, 0, 0, false}, {1 << 32, 0, 0, false},
		{3, -1, 0, false}, {3, 0, -1, false}, {3, -1, -1, false}, {3, -2, -1, false}, {3, math.MinInt64, 0, false}, {3, 0, math.MinInt64, false},
		{3, 0, great, true}, {3, great, great, true}, {3, great - 1, great, true},
		{3, 0, great + 1, false}, {3, great, great + 1, false}, {3, great + 1, great + 1, false}, {3, great + 1, great, false}, {3, 0, math.MaxInt64, false},
		{3, 10, 9, false}, {3, 10, 10, true}, {3, 10, 11, true}, {3, 1, 0, false}, {3, great, great - 1, false}, {3, great, 0, false},
	} {
		c := New(x.node, x.time, x.lease)
		if (c != nil) != x.want {
			t.Errorf("New(%d, %d, %d): %v", x.node, x.time, x.lease, c)
		}
		if c != nil && (c.Now() != x.time || c.Lease() != x.lease) {
			t.Errorf("New(%d, %d, %d): %d, %d", x.node, x.time, x.lease, c.Now(), c.Lease())
		}
	}
	for _, node := range nodes() {
		for _, time := range times() {
			for _, lease := range times() {
				c := New(node, time, lease)
				if (c != nil) != plainNew(node, time, lease) {
					t.Errorf("New(%d, %d, %d): %v", node, time, lease, c)
				}
			}
		}
	}
}

// P5.2: below the lease, at it, and behind it.
func TestNext(t *testing.T) {
	for _, x := range []struct {
		time, lease int64
		want        told
	}{
		{0, 0, told{api.ID{Time: 1, Node: 3}, true, api.OK, 1, 4097}},
		{0, 1, told{api.ID{Time: 1, Node: 3}, false, api.OK, 1, 1}},
		{0, 2, told{api.ID{Time: 1, Node: 3}, false, api.OK, 1, 2}},
		{10, 10, told{api.ID{Time: 11, Node: 3}, true, api.OK, 11, 4107}},
		{10, 11, told{api.ID{Time: 11, Node: 3}, false, api.OK, 11, 11}},
		{10, 5000, told{api.ID{Time: 11, Node: 3}, false, api.OK, 11, 5000}},
		{10, great, told{api.ID{Time: 11, Node: 3}, false, api.OK, 11, great}},
		{great - 4098, great - 4098, told{api.ID{Time: great - 4097, Node: 3}, true, api.OK, great - 4097, great - 1}},
		{great - 4097, great - 4097, told{api.ID{Time: great - 4096, Node: 3}, true, api.OK, great - 4096, great}},
		{great - 4096, great - 4096, told{api.ID{Time: great - 4095, Node: 3}, true, api.OK, great - 4095, great}},
		{great - 2, great - 2, told{api.ID{Time: great - 1, Node: 3}, true, api.OK, great - 1, great}},
		{great - 1, great - 1, told{api.ID{Time: great, Node: 3}, true, api.OK, great, great}},
		{great - 1, great, told{api.ID{Time: great, Node: 3}, false, api.OK, great, great}},
		{great, great, told{api.ID{}, false, api.EOVERFLOW, great, great}},
	} {
		same(t, "Next", next(clockAt(t, x.time, x.lease)), x.want)
	}
	for _, node := range []int{0, 1, 62, 63} {
		if id, _, _ := New(node, 4, 9).Next(); id != (api.ID{Time: 5, Node: node}) {
			t.Errorf("Next of node %d: %v", node, id)
		}
	}
}

// P5.2: many on end; the lease is raised just when the time passes it.
func TestNextOnEnd(t *testing.T) {
	c := clockAt(t, 0, 2)
	lease := int64(2)
	for time := int64(1); time < 20000; time++ {
		// Passed at 3, and then each 4097 further.
		raised := time >= 3 && (time-3)%4097 == 0
		if raised {
			lease = time + 4096
		}
		same(t, "Next", next(c), told{api.ID{Time: time, Node: 3}, raised, api.OK, time, lease})
	}
}

// P5.2: at the last time nothing changes any more.
func TestNextAtTheEnd(t *testing.T) {
	c := clockAt(t, great-3, great-2)
	same(t, "Next", next(c), told{api.ID{Time: great - 2, Node: 3}, false, api.OK, great - 2, great - 2})
	same(t, "Next", next(c), told{api.ID{Time: great - 1, Node: 3}, true, api.OK, great - 1, great})
	same(t, "Next", next(c), told{api.ID{Time: great, Node: 3}, false, api.OK, great, great})
	for range 3 {
		same(t, "Next", next(c), told{api.ID{}, false, api.EOVERFLOW, great, great})
	}
	same(t, "See", see(c, api.ID{Time: great, Node: 1}), told{api.ID{}, false, api.OK, great, great})
	same(t, "See", see(c, api.ID{Time: 1, Node: 1}), told{api.ID{}, false, api.OK, great, great})
	same(t, "See", see(c, api.ID{Time: great + 1, Node: 1}), told{api.ID{}, false, api.EINVAL, great, great})
}

// P5.2: a time below, at and above the clock's own, and below, at and behind the lease.
func TestSee(t *testing.T) {
	for _, x := range []struct {
		time, lease int64
		id          api.ID
		want        told
	}{
		{10, 20, api.ID{Time: 1, Node: 5}, told{now: 10, lease: 20}},
		{10, 20, api.ID{Time: 9, Node: 5}, told{now: 10, lease: 20}},
		{10, 20, api.ID{Time: 10, Node: 5}, told{now: 10, lease: 20}},
		{10, 20, api.ID{Time: 11, Node: 5}, told{now: 11, lease: 20}},
		{10, 20, api.ID{Time: 19, Node: 0}, told{now: 19, lease: 20}},
		{10, 20, api.ID{Time: 20, Node: 63}, told{now: 20, lease: 20}},
		{10, 20, api.ID{Time: 21, Node: 5}, told{raised: true, now: 21, lease: 4117}},
		{10, 20, api.ID{Time: 100, Node: 3}, told{raised: true, now: 100, lease: 4196}},
		{10, 20, api.ID{Time: 1 << 40, Node: 5}, told{raised: true, now: 1 << 40, lease: 1<<40 + 4096}},
		{10, 10, api.ID{Time: 10, Node: 5}, told{now: 10, lease: 10}},
		{10, 10, api.ID{Time: 9, Node: 5}, told{now: 10, lease: 10}},
		{0, 0, api.ID{Time: 1, Node: 5}, told{raised: true, now: 1, lease: 4097}},
		{10, 20, api.ID{Time: great - 4097, Node: 5}, told{raised: true, now: great - 4097, lease: great - 1}},
		{10, 20, api.ID{Time: great - 4096, Node: 5}, told{raised: true, now: great - 4096, lease: great}},
		{10, 20, api.ID{Time: great - 4095, Node: 5}, told{raised: true, now: great - 4095, lease: great}},
		{10, 20, api.ID{Time: great - 1, Node: 5}, told{raised: true, now: great - 1, lease: great}},
		{10, 20, api.ID{Time: great, Node: 5}, told{raised: true, now: great, lease: great}},
		{10, great, api.ID{Time: great, Node: 5}, told{now: great, lease: great}},
		{10, 20, api.ID{}, told{e: api.EINVAL, now: 10, lease: 20}},
		{10, 20, api.ID{Time: 0, Node: 5}, told{e: api.EINVAL, now: 10, lease: 20}},
		{10, 20, api.ID{Time: -1, Node: 5}, told{e: api.EINVAL, now: 10, lease: 20}},
		{10, 20, api.ID{Time: great + 1, Node: 5}, told{e: api.EINVAL, now: 10, lease: 20}},
		{10, 20, api.ID{Time: math.MaxInt64, Node: 5}, told{e: api.EINVAL, now: 10, lease: 20}},
		{10, 20, api.ID{Time: math.MinInt64, Node: 5}, told{e: api.EINVAL, now: 10, lease: 20}},
		{10, 20, api.ID{Time: 30, Node: -1}, told{e: api.EINVAL, now: 10, lease: 20}},
		{10, 20, api.ID{Time: 30, Node: 64}, told{e: api.EINVAL, now: 10, lease: 20}},
		{10, 20, api.ID{Time: 15, Node: 64}, told{e: api.EINVAL, now: 10, lease: 20}},
		{10, 20, api.ID{Time: 5, Node: 64}, told{e: api.EINVAL, now: 10, lease: 20}},
		{10, 20, api.ID{Time: 30, Node: math.MaxInt}, told{e: api.EINVAL, now: 10, lease: 20}},
	} {
		same(t, "See", see(clockAt(t, x.time, x.lease), x.id), x.want)
	}
}

// P5.2: what was seen has no part in the next stamp but by its time.
func TestNextBehindSee(t *testing.T) {
	c := clockAt(t, 10, 20)
	c.See(api.ID{Time: 15, Node: 5})
	same(t, "Next", next(c), told{api.ID{Time: 16, Node: 3}, false, api.OK, 16, 20})
	c.See(api.ID{Time: 20, Node: 63})
	same(t, "Next", next(c), told{api.ID{Time: 21, Node: 3}, true, api.OK, 21, 4117})
	c.See(api.ID{Time: 5000, Node: 0})
	same(t, "Next", next(c), told{api.ID{Time: 5001, Node: 3}, false, api.OK, 5001, 9096})
	c.See(api.ID{Time: 7, Node: 0})
	same(t, "Next", next(c), told{api.ID{Time: 5002, Node: 3}, false, api.OK, 5002, 9096})
	c.See(api.ID{Time: 6000, Node: 64})
	same(t, "Next", next(c), told{api.ID{Time: 5003, Node: 3}, false, api.OK, 5003, 9096})
	c.See(api.ID{Time: great, Node: 9})
	same(t, "Next", next(c), told{api.ID{}, false, api.EOVERFLOW, great, great})
}

// P5.2: each call, from clocks at all the edges, against the chapter's words.
func TestAgainstThePlainClock(t *testing.T) {
	for _, time := range times() {
		for _, lease := range times() {
			if !plainNew(63, time, lease) {
				continue
			}
			for _, id := range stamps() {
				c, p := New(63, time, lease), &plainClock{63, time, lease}
				same(t, "See", see(c, id), p.see(id))
				same(t, "Next", next(c), p.next())
				same(t, "Next", next(c), p.next())
				same(t, "See", see(c, id), p.see(id))
			}
		}
	}
}

// P5.2: long runs of calls in no order, which hang on the seed alone.
func TestLongRuns(t *testing.T) {
	for seed := range uint64(60) {
		start := int64(seed) * 100
		if seed%3 == 0 {
			start = great - 20000
		}
		c, p := New(int(seed), start, start+int64(seed)), &plainClock{int(seed), start, start + int64(seed)}
		noise := seed
		for range 2000 {
			noise = noise*6364136223846793005 + 1442695040888963407
			step := int64(noise>>33) % 8
			switch noise >> 60 {
			case 0:
				step = int64(noise>>33)%6000 - 3000
			case 1:
				// At the lease, and one to each side of it.
				step = p.lease - p.time + step%3 - 1
			}
			if noise>>59&1 == 0 {
				same(t, "Next", next(c), p.next())
				continue
			}
			id := api.ID{Time: p.time + step, Node: int(noise>>50) % 66}
			same(t, "See", see(c, id), p.see(id))
		}
	}
}

// P5.2: the stamps of a clock rise, those of another that it has seen stand ahead of its next one.
func TestStampsRise(t *testing.T) {
	a, b := New(1, 0, 0), New(2, 0, 0)
	last := api.ID{}
	for i := range 10000 {
		giver, other := a, b
		if i%7 > 3 {
			giver, other = b, a
		}
		id, _, e := giver.Next()
		if e != api.OK || !Valid(id) || !Less(last, id) {
			t.Fatalf("%v behind %v: %d", id, last, e)
		}
		if giver.Now() > giver.Lease() {
			t.Fatalf("time %d, lease %d", giver.Now(), giver.Lease())
		}
		if _, e := other.See(id); e != api.OK {
			t.Fatalf("See(%v): %d", id, e)
		}
		last = id
	}
}

// P5.3
func TestNilClock(t *testing.T) {
	var none *Clock
	for range 2 {
		same(t, "Next", next(none), told{e: api.EOVERFLOW})
		for _, id := range stamps() {
			same(t, "See", see(none, id), told{e: api.EINVAL})
		}
		if none.Now() != 0 || none.Lease() != 0 {
			t.Errorf("nil: %d, %d", none.Now(), none.Lease())
		}
	}
	same(t, "Next", next(New(64, 0, 0)), told{e: api.EOVERFLOW})
}

// P0.1: a Clock that New didn't make is as one of node 0 at the time 0.
func TestZeroClock(t *testing.T) {
	var c Clock
	same(t, "Next", next(&c), told{api.ID{Time: 1}, true, api.OK, 1, 4097})
	same(t, "See", see(new(Clock), api.ID{Time: 9, Node: 9}), told{raised: true, now: 9, lease: 4105})
}

// P0.5
func TestClocksKnowNothingOfEachOther(t *testing.T) {
	a, b, c := clockAt(t, 10, 20), clockAt(t, 10, 20), New(5, 0, 1)
	a.See(api.ID{Time: 30000, Node: 5})
	same(t, "Next", next(b), told{api.ID{Time: 11, Node: 3}, false, api.OK, 11, 20})
	same(t, "Next", next(c), told{api.ID{Time: 1, Node: 5}, false, api.OK, 1, 1})
	same(t, "Next", next(a), told{api.ID{Time: 30001, Node: 3}, false, api.OK, 30001, 34096})
	b.See(api.ID{Time: great, Node: 0})
	same(t, "Next", next(b), told{api.ID{}, false, api.EOVERFLOW, great, great})
	same(t, "Next", next(c), told{api.ID{Time: 2, Node: 5}, true, api.OK, 2, 4098})
	same(t, "Next", next(a), told{api.ID{Time: 30002, Node: 3}, false, api.OK, 30002, 34096})
	same(t, "Next", next(clockAt(t, 10, 20)), told{api.ID{Time: 11, Node: 3}, false, api.OK, 11, 20})
}
