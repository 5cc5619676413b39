package oplog

import (
	"fmt"
	"math"
	"slices"
	"testing"

	"lagoon/api"
)

func TestAddOneByOneAndAllTogether(t *testing.T) { // P13.2
	_, single, p := made(t, 60)
	for _, o := range some() {
		p = mustAdd(t, single, p, o)
		wantLog(t, single, p)
	}
	for cut := range len(some()) + 1 {
		_, l, q := made(t, 60)
		q = add(t, l, q, some()[:cut]...)
		wantLog(t, l, q)
		q = add(t, l, q, some()[cut:]...)
		wantLog(t, l, q)
	}
}

func TestAddOfNone(t *testing.T) { // P13.2, P0.4
	d, l, p := made(t, 60)
	for _, more := range [][]api.Op{some(), nil} {
		count := d.Count()
		for _, none := range [][]api.Op{nil, {}} {
			if n, e := l.Add(none...); n != 0 || e != api.OK {
				t.Errorf("Add of none = %d, %d", n, e)
			}
		}
		if d.Count() != count {
			t.Error("Add of none wrote something")
		}
		wantLog(t, l, p)
		p = mustAdd(t, l, p, more...)
	}
}

// wrong are operations that a log which holds some() does not take, each for one reason; right is what they were made of.
func wrong() (right api.Op, out map[string]api.Op) {
	right = dir(0, 20, 3, 2, 0, 0, 0, 1)
	out = map[string]api.Op{}
	change := func(why string, f func(o *api.Op)) {
		o := right
		o.Seen = slices.Clone(o.Seen)
		f(&o)
		out[why] = o
	}
	change("no kind", func(o *api.Op) { o.Kind = 0 })
	change("another kind", func(o *api.Op) { o.Kind = 9 })
	change("no name", func(o *api.Op) { o.Name = "" })
	change("a directory with data", func(o *api.Op) { o.Data = []byte{1} })
	change("no node of its stamp", func(o *api.Op) { o.Stamp.Node, o.Obj.Node = 64, 64 })
	change("a node below 0", func(o *api.Op) { o.Stamp.Node, o.Obj.Node = -1, -1 })
	change("no time", func(o *api.Op) { o.Stamp.Time, o.Obj.Time = 0, 0 })
	change("a time that is too great", func(o *api.Op) { o.Stamp.Time, o.Obj.Time = 1<<60+1, 1<<60+1 })
	change("a Seq one too great", func(o *api.Op) { o.Seq++; o.Seen[0]++ })
	change("a Seq one too small", func(o *api.Op) { o.Seq--; o.Seen[0]-- })
	change("the first Seq", func(o *api.Op) { o.Seq, o.Seen[0] = 1, 0 })
	change("Seq 0", func(o *api.Op) { o.Seq = 0 })
	change("a Seq below 0", func(o *api.Op) { o.Seq = -1 })
	change("the least Seq", func(o *api.Op) { o.Seq = math.MinInt64 })
	change("the greatest Seq", func(o *api.Op) { o.Seq, o.Seen[0] = 1<<60, 1<<60-1 })
	change("a Seq that Seen does not say", func(o *api.Op) { o.Seq++ })
	change("a Seen without its own", func(o *api.Op) { o.Seen[0]-- })
	change("a Seen of one more of another node", func(o *api.Op) { o.Seen[1]++ })
	change("a Seen of a node of which there is none", func(o *api.Op) { o.Seen[3]++ })
	change("a Seen of the last node", func(o *api.Op) { o.Seen = append(append(o.Seen, make(api.Vector, 57)...), 1) })
	change("a Seen of numbers that are too great", func(o *api.Op) { o.Seen[1] = math.MaxInt64 })
	change("a Seen of numbers below 0", func(o *api.Op) { o.Seen[1] = -1 })
	change("a Seen that is too long", func(o *api.Op) { o.Seen = append(append(o.Seen, make(api.Vector, 58)...), 1) })
	change("its own last stamp's time", func(o *api.Op) { o.Stamp.Time, o.Obj.Time = 13, 13 })
	change("a time below its own last stamp's", func(o *api.Op) { o.Stamp.Time, o.Obj.Time = 12, 12 })
	out["there already, the last one"] = some()[5]
	out["there already, the first one"] = some()[0]
	out["zero"] = api.Op{}
	return right, out
}

func TestOperationsThatAreNotTaken(t *testing.T) { // P13.2, P0.2
	right, wrong := wrong()
	for why, o := range wrong {
		d, l, p := made(t, 60)
		p = mustAdd(t, l, p, some()...)
		count, before := d.Count(), image(t, l.files)
		if n, e := l.Add(o); n != 0 || e != api.EINVAL {
			t.Errorf("%s: Add = %d, %d", why, n, e)
		}
		if _, n, e := p.after(o); n != 0 || e != api.EINVAL {
			t.Fatalf("%s: the test itself is wrong", why)
		}
		if d.Count() != count || image(t, l.files) != before {
			t.Errorf("%s: an Add that was refused wrote something", why)
		}
		wantLog(t, l, p)
		wantLog(t, l, mustAdd(t, l, p, right))
	}
}

func TestTheFirstOneThatIsNotTaken(t *testing.T) { // P13.2: those ahead of it are taken
	right, wrong := wrong()
	more := []api.Op{right, dir(7, 1), dir(1, 21, 4, 2), dir(0, 22, 4, 2)}
	refused := 0
	for why, o := range wrong {
		for place := range len(more) + 1 {
			d, l, p := made(t, 60)
			p = mustAdd(t, l, p, some()...)
			os := slices.Insert(slices.Clone(more), place, o)
			next, n, e := p.after(os...)
			if n != place || e != api.EINVAL {
				continue // what is wrong at the end may be right behind others
			}
			refused++
			if got, e := l.Add(os...); got != n || e != api.EINVAL {
				t.Errorf("%s at %d: Add = %d, %d", why, place, got, e)
			}
			wantLog(t, l, next)
			wantLog(t, opened(t, mounted(t, d.Crash(all)), p.room), next)
			wantLog(t, l, mustAdd(t, l, next, more[place:]...))
		}
	}
	if all := len(wrong) * (len(more) + 1); refused < all-9 {
		t.Errorf("%d of %d: the test itself is wrong", refused, all)
	}
}

func TestStampsAndWhatWasSeen(t *testing.T) { // P13.2: greater than those of all that Seen says, of no others
	base := []api.Op{dir(4, 10), dir(4, 30, 0, 0, 0, 0, 1), dir(2, 20)}
	for _, x := range []struct {
		o    api.Op
		want api.Errno
	}{
		// Its own ones.
		{dir(4, 29, 0, 0, 0, 0, 2), api.EINVAL}, {dir(4, 30, 0, 0, 0, 0, 2), api.EINVAL}, {dir(4, 31, 0, 0, 0, 0, 2), api.OK}, {dir(4, 10, 0, 0, 0, 0, 2), api.EINVAL},
		// Another node's: by time, then by node.
		{dir(3, 9, 0, 0, 0, 0, 1), api.EINVAL}, {dir(3, 10, 0, 0, 0, 0, 1), api.EINVAL}, {dir(5, 10, 0, 0, 0, 0, 1), api.OK}, {dir(3, 11, 0, 0, 0, 0, 1), api.OK},
		{dir(3, 29, 0, 0, 0, 0, 2), api.EINVAL}, {dir(3, 30, 0, 0, 0, 0, 2), api.EINVAL}, {dir(5, 30, 0, 0, 0, 0, 2), api.OK}, {dir(3, 31, 0, 0, 0, 0, 2), api.OK},
		// What was not seen says nothing.
		{dir(3, 1), api.OK}, {dir(63, 1), api.OK}, {dir(3, 15, 0, 0, 0, 0, 1), api.OK}, {dir(2, 21, 0, 0, 1), api.OK},
		// Several nodes.
		{dir(2, 25, 0, 0, 1, 0, 1), api.OK}, {dir(2, 25, 0, 0, 1, 0, 2), api.EINVAL}, {dir(2, 19, 0, 0, 1, 0, 1), api.EINVAL}, {dir(2, 30, 0, 0, 1, 0, 2), api.EINVAL}, {dir(5, 20, 0, 0, 1, 0, 1), api.OK}, {dir(1, 20, 0, 0, 1, 0, 1), api.EINVAL},
		{dir(2, 1<<60, 0, 0, 1, 0, 2), api.OK},
	} {
		_, l, p := made(t, 60)
		p = mustAdd(t, l, p, base...)
		next, _, want := p.after(x.o)
		if want != x.want {
			t.Fatalf("%v: the test itself is wrong", x.o)
		}
		if n, e := l.Add(x.o); e != want || n != len(next.ops)-3 {
			t.Errorf("%v: Add = %d, %d, want %d", x.o, n, e, want)
		}
		wantLog(t, l, next)
	}
}

func TestALaterOneTakesWhatAnEarlierOneBrought(t *testing.T) { // P13.2
	chain := []api.Op{dir(0, 1), dir(1, 2, 1), dir(0, 3, 1, 1), dir(2, 4, 2, 1), dir(63, 5, 2, 1, 1), dir(0, 6, append(api.Vector{2, 1, 1}, append(make(api.Vector, 60), 1)...)...)}
	_, l, p := made(t, 60)
	p = mustAdd(t, l, p, chain...)
	wantLog(t, l, p)
	for from := range chain {
		for to := from + 2; to <= len(chain); to++ {
			_, l, p := made(t, 60)
			p = mustAdd(t, l, p, chain[:from]...)
			// The other way round the first one is too early.
			swapped := slices.Clone(chain[from:to])
			slices.Reverse(swapped)
			wantLog(t, l, add(t, l, p, swapped...))
		}
	}
}

func TestTheRoomOfAnAdd(t *testing.T) { // P13.2: at the room, one above it
	for _, os := range [][]api.Op{some(), some()[:1], {dir(0, 1), dir(1, 1), dir(2, 1), dir(3, 1)}} {
		for fits := range len(os) + 1 {
			for _, spare := range []int{-1, 0, 1} {
				room := plainCost(os[:fits]...) + spare
				if room < 0 {
					continue
				}
				d := formatted(t, 60)
				l := opened(t, mounted(t, d), room)
				p := plain{room: room}
				next, want, why := p.after(os...)
				if min(fits, len(os)) < len(os) && why != api.ENOSPC {
					t.Fatal("the test itself is wrong")
				}
				if n, e := l.Add(os...); n != want || e != why {
					t.Errorf("Add at a room of %d = %d, %d; want %d, %d", room, n, e, want, why)
				}
				wantLog(t, l, next)
				wantLog(t, opened(t, mounted(t, d.Crash(all)), room), next)
				if n, e := l.Add(os[want:]...); n != 0 || e != why {
					t.Errorf("again: %d, %d", n, e)
				}
				wantLog(t, l, next)
			}
		}
	}
}

func TestNotTakenAndWithoutRoom(t *testing.T) { // P13.2, P0.2: both at once, in each order
	small, great := dir(0, 5), write(1, 6, make([]byte, 2000))
	bad := dir(2, 5)
	bad.Name = ""
	both := write(2, 6, make([]byte, 2000), 0, 0, 4)
	for _, x := range []struct {
		os   []api.Op
		n    int
		want api.Errno
	}{
		{[]api.Op{great, bad}, 0, api.ENOSPC}, {[]api.Op{bad, great}, 0, api.EINVAL}, {[]api.Op{both}, 0, api.EINVAL},
		{[]api.Op{small, great, bad}, 1, api.ENOSPC}, {[]api.Op{small, bad, great}, 1, api.EINVAL}, {[]api.Op{small, both, small}, 1, api.EINVAL}, {[]api.Op{small, small, great}, 1, api.EINVAL},
		{[]api.Op{great, small}, 0, api.ENOSPC},
	} {
		l := opened(t, mounted(t, formatted(t, 60)), 1000)
		p := plain{room: 1000}
		if n, e := l.Add(x.os...); n != x.n || e != x.want {
			t.Errorf("Add = %d, %d; want %d, %d", n, e, x.n, x.want)
		}
		next, _, _ := p.after(x.os...)
		wantLog(t, l, next)
	}
}

func TestVectorIsInNormalForm(t *testing.T) { // P13.2
	for _, node := range []int{0, 1, 31, 62, 63} {
		_, l, p := made(t, 60)
		if v := l.Vector(); len(v) != 0 {
			t.Errorf("at first: %v", v)
		}
		p = mustAdd(t, l, p, dir(node, 3))
		if v := l.Vector(); len(v) != node+1 || v[node] != 1 {
			t.Errorf("node %d: %v", node, v)
		}
		wantLog(t, l, mustAdd(t, l, p, p.sized(t, node, 150)))
	}
}

func TestGetAtItsEdges(t *testing.T) { // P13.2
	_, l, p := made(t, 60)
	p = mustAdd(t, l, p, append(some(), dir(63, 5), p.with(t, dir(63, 5)).sized(t, 63, 160))...)
	for _, node := range []int{math.MinInt, -64, -1, 0, 1, 2, 4, 5, 62, 63, 64, 65, 1 << 32, math.MaxInt} {
		for _, seq := range []int64{math.MinInt64, -1, 0, 1, 2, 3, 4, 1 << 32, 1<<32 + 1, 1 << 60, math.MaxInt64} {
			var want []api.Op
			for _, o := range p.ops {
				if o.Stamp.Node == node && o.Seq == seq {
					want = append(want, o)
				}
			}
			o, ok := l.Get(node, seq)
			if ok != (len(want) == 1) {
				t.Errorf("Get(%d, %d) = %v", node, seq, ok)
			}
			if ok {
				wantSame(t, "Get", []api.Op{o}, want)
			} else if fmt.Sprint(o) != fmt.Sprint(api.Op{}) {
				t.Errorf("Get(%d, %d) = %v, false", node, seq, o)
			}
		}
	}
}

func TestFits(t *testing.T) { // P13.2
	right, wrong := wrong()
	d, l, p := made(t, 60)
	p = mustAdd(t, l, p, some()...)
	lists := [][]api.Op{nil, {}, {right}, {right, right, right}, some(), {api.Op{}}, {wrong["a Seq one too great"], right}}
	for _, os := range lists {
		need := plainCost(p.ops...) + plainCost(os...)
		for _, room := range []int{0, need - 1, need, need + 1, math.MaxInt} {
			l := opened(t, mounted(t, d), room)
			if l.Fits(os...) != (need <= room) {
				t.Errorf("Fits of %d, at a cost of %d and a room of %d: %v", len(os), need, room, need > room)
			}
			p.room = room
			wantLog(t, l, p)
		}
	}
	// An operation that may not be costs 16.
	if l := opened(t, mounted(t, formatted(t, 60)), 31); !l.Fits() || !l.Fits(api.Op{}) || l.Fits(api.Op{}, api.Op{}) {
		t.Error("Fits of operations that may not be")
	}
}

func TestAnAddInWhichTheDeviceDies(t *testing.T) { // P13.2
	for what, os := range map[string][]api.Op{"one": {dir(9, 2)}, "many": {dir(9, 2), write(8, 5, make([]byte, 3000)), dir(9, 3, 0, 0, 0, 0, 0, 0, 0, 0, 1)}, "some of them": {dir(9, 2), write(8, 5, make([]byte, 700)), {}}} {
		for _, first := range []int{0, len(some())} {
			d, l, p := made(t, 60)
			p = mustAdd(t, l, p, some()[:first]...)
			l.Sync()
			next, _, _ := p.after(os...)
			whole := d.Crash(nil)
			k := opened(t, mounted(t, whole), p.room)
			count := whole.Count()
			add(t, k, p, os...)
			writes := whole.Count() - count
			for fuse := range writes {
				d := d.Crash(nil)
				l := opened(t, mounted(t, d), p.room)
				d.Fuse(fuse)
				if n, e := l.Add(os...); n != 0 || e != api.EIO {
					t.Fatalf("%s, fuse %d: Add = %d, %d", what, fuse, n, e)
				}
				wantDead(t, l, p)
				wantLog(t, opened(t, l.files, p.room), p)
				for name, keep := range keeps(d) {
					g := opened(t, mounted(t, d.Crash(keep)), p.room)
					if !isLike(g, p) && !isLike(g, next) {
						t.Errorf("%s, fuse %d, %s: neither without the Add nor with all of it", what, fuse, name)
					}
				}
			}
			d = d.Crash(nil)
			l = opened(t, mounted(t, d), p.room)
			d.Fuse(writes)
			wantDead(t, l, add(t, l, p, os...))
		}
	}
}

// wantDead sees that nothing can be kept any more, and that the log stays as it is.
func wantDead(t *testing.T, l *Log, p plain) {
	t.Helper()
	if n, e := l.Add(p.sized(t, 7, 60)); n != 0 || e != api.EIO {
		t.Errorf("Add = %d, %d", n, e)
	}
	if n, e := l.Add(p.sized(t, 7, 60), api.Op{}); n != 0 || e != api.EIO {
		t.Errorf("Add of one that is taken and one that is not = %d, %d", n, e)
	}
	// There is nothing to keep.
	if n, e := l.Add(); n != 0 || e != api.OK {
		t.Errorf("Add of none = %d, %d", n, e)
	}
	if n, e := l.Add(api.Op{}, dir(9, 2)); n != 0 || e != api.EINVAL {
		t.Errorf("Add of one that is not taken = %d, %d", n, e)
	}
	if n, e := l.Add(write(7, 1000, make([]byte, 60000))); n != 0 || e != api.ENOSPC {
		t.Errorf("Add of a great one = %d, %d", n, e)
	}
	for _, meta := range []string{p.meta + "x", p.meta, ""} {
		if e := l.SetMeta([]byte(meta)); e != api.EIO {
			t.Errorf("SetMeta(%q) = %d", meta, e)
		}
	}
	if e := l.SetMeta(make([]byte, 257)); e != api.EINVAL {
		t.Errorf("SetMeta of 257 bytes = %d", e)
	}
	if e := l.Sync(); e != api.EIO {
		t.Errorf("Sync = %d", e)
	}
	wantLog(t, l, p)
}
