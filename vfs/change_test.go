package vfs

import (
	"fmt"
	"slices"
	"strings"
	"testing"

	"lagoon/api"
	"lagoon/clock"
	"lagoon/ops"
)

// changing are calls that make operations in a machine as changePair has it, and how many.
func changing() []struct {
	call api.Call
	made int
} {
	return []struct {
		call api.Call
		made int
	}{
		{open("/x", create), 1}, {open("/d/e/x", create|excl|writes|app), 1}, {open("/d/f", trunc|writes), 1}, {open("/d/f", create|trunc|writes), 1},
		{write(0, "x"), 1}, {write(1, "x"), 1}, {mkdir("/x"), 1}, {mkdir("/d/e/x"), 1}, {rmdir("/d/e"), 1}, {unlink("/g"), 1}, {unlink(g1), 1},
		{rename("/d", "/x"), 1}, {rename("/g", "/d/e/x"), 1}, {rename("/d/f", "/g"), 2}, {rename(d3, "/d/e"), 2}, {rename(g1, "/g"), 2},
		{truncate("/d/f", 1), 1}, {truncate("/g", 9), 1}, {resolve("/d/f", 0), 1}, {resolve("/d/f", 1), 1},
	}
}

// changePair is clashPair with /d/f open: 0 at the offset 2, 1 behind the end.
func changePair(t *testing.T, what string) *pair {
	t.Helper()
	return clashPair(t, what).want(told{call: open("/d/f", writes)}, told{call: open("/d/f", writes|app), n: 1}, told{call: seek(0, 2, 0), n: 2})
}

func TestFits(t *testing.T) { // P21.2, P0.7
	for _, x := range changing() {
		p := changePair(t, fmt.Sprint(x.call))
		asked := 0
		r, made := p.doIf(x.call, func(os ...api.Op) bool {
			asked++
			if len(os) != x.made {
				t.Errorf("%v: asked of %d operations", x.call, len(os))
			}
			return true
		})
		if r.Err != api.OK || len(made) != x.made || asked != 2 { // the plain one asks once, too
			t.Errorf("%v: %v, %d made, asked %d times", x.call, r, len(made), asked)
		}
		p.look()
	}
}

func TestWhatDoesNotFit(t *testing.T) { // P21.2, P0.2
	for _, x := range changing() {
		p := changePair(t, fmt.Sprint(x.call))
		for i := range 3 {
			r, made := p.doIf(x.call, func(os ...api.Op) bool { return false })
			if !sameResult(r, api.Result{Err: api.ENOSPC}) || len(made) != 0 {
				t.Errorf("%v: %v, %v", x.call, r, made)
			}
			if now := p.clock.Now(); now != int64(8+(i+1)*x.made) {
				t.Errorf("%v: the clock is at %d", x.call, now)
			}
			p.wantShape(clashShape).look()
		}
		// The stamps that were taken are not used again.
		_, made := p.do(x.call)
		if len(made) != x.made || made[0].Stamp != id(int64(8+3*x.made+1), 2) || made[0].Seq != 6 {
			t.Errorf("%v: made %v", x.call, made)
		}
		p.look()
	}
}

// fits tells false for two at once, and true for each alone.
func TestOneFitsButNotTwo(t *testing.T) { // P21.2
	one := func(os ...api.Op) bool { return len(os) == 1 }
	two := func(os ...api.Op) bool { return len(os) == 2 }
	for _, x := range changing() {
		p := changePair(t, fmt.Sprint(x.call))
		fits, no := one, two
		if x.made == 2 {
			fits, no = two, one
		}
		if r, made := p.doIf(x.call, no); r.Err != api.ENOSPC || len(made) != 0 {
			t.Errorf("%v: %v, %v", x.call, r, made)
		}
		p.wantShape(clashShape).look()
		if r, made := p.doIf(x.call, fits); r.Err != api.OK || len(made) != x.made {
			t.Errorf("%v: %v, %v", x.call, r, made)
		}
		p.look()
	}
}

// fits tells false at the first call alone.
func TestItFitsLater(t *testing.T) { // P21.2
	for _, x := range changing() {
		p := changePair(t, fmt.Sprint(x.call))
		p.doIf(x.call, func(os ...api.Op) bool { return false })
		if r, made := p.doIf(x.call, func(os ...api.Op) bool { return true }); r.Err != api.OK || len(made) != x.made {
			t.Errorf("%v: %v, %v", x.call, r, made)
		}
		p.look()
	}
}

// A call that makes nothing asks nothing, and has room wherever there is none.
func TestWhatMakesNothingIsNotAsked(t *testing.T) { // P21.2
	p := changePair(t, "a machine").want(told{call: open("/g", writes), n: 2})
	no := func(os ...api.Op) bool { t.Errorf("fits is asked of %v", os); return false }
	for _, c := range []api.Call{
		open("/d/f", writes), open("/g", trunc|writes), open("/g", create|trunc|writes), read(0, 9), write(0, ""), seek(0, 0, 2), closing(2),
		readdir("/"), stat("/"), {Fn: api.CSync}, {Fn: api.CLink}, truncate("/d/f", 5), truncate("/g", 0), conflicts("/d/f"), resolve("/g", 0),
		rename("/d", "/d"), mkdir("/d"), rmdir("/d"), unlink("/d"), rename("/d", "/d/x"), open("/x", 0), truncate("/d/f", 65537), write(0, strings.Repeat("x", 65537)), resolve("/d/f", 2), {Fn: 17},
	} {
		if r, made := p.doIf(c, no); r.Err == api.ENOSPC || len(made) != 0 {
			t.Errorf("%s: %s, %v", short(c), short(r), made)
		}
	}
	p.wantShape(clashShape).look()
}

func TestFitsThatPanics(t *testing.T) { // P0.1
	for _, x := range changing() {
		p := changePair(t, fmt.Sprint(x.call))
		r, made := p.fs.Do(x.call, func(os ...api.Op) bool { panic("no") })
		if !sameResult(r, api.Result{Err: api.ENOSPC}) || len(made) != 0 {
			t.Errorf("%v: %v, %v", x.call, r, made)
		}
		p.plain.time += int64(x.made)
		p.wantShape(clashShape).look()
	}
}

// fits may look at the machine: nothing has changed yet.
func TestFitsThatLooks(t *testing.T) { // P21.2
	for _, x := range changing() {
		p := changePair(t, fmt.Sprint(x.call))
		r, _ := p.fs.Do(x.call, func(os ...api.Op) bool {
			p.plain.time = p.clock.Now()
			p.wantShape(clashShape).look()
			return true
		})
		p.plain.time -= int64(x.made)
		if want, _ := p.plain.do(x.call, nil); !sameResult(r, want) {
			t.Errorf("%v: %v, want %v", x.call, r, want)
		}
		p.look()
	}
}

// What is made says when, by whom, which one, and what it has seen.
func TestMadeOperations(t *testing.T) { // P21.2, Words
	p := clashPair(t, "a machine").load(makes(api.KDir, id(8, 40), id(1, 2), "y", 0, 2))
	seen := func(own int64) api.Vector {
		v := make(api.Vector, 41)
		v[1], v[2], v[3], v[40] = 2, own, 2, 1
		return v
	}
	for _, x := range []struct {
		call api.Call
		want []api.Op
	}{
		{mkdir("/a"), []api.Op{{Stamp: id(9, 2), Seq: 6, Kind: api.KDir, Obj: id(9, 2), Parent: ops.Root(), Name: "a", Seen: seen(5)}}},
		{open("/a/b", create|writes), []api.Op{{Stamp: id(10, 2), Seq: 7, Kind: api.KFile, Obj: id(10, 2), Parent: id(9, 2), Name: "b", Seen: seen(6)}}},
		{write(0, "text"), []api.Op{{Stamp: id(11, 2), Seq: 8, Kind: api.KWrite, Obj: id(10, 2), Data: []byte("text"), Seen: seen(7)}}},
		{rename("/a/b", g1), []api.Op{
			{Stamp: id(12, 2), Seq: 9, Kind: api.KMove, Obj: id(6, 1), Parent: ops.Trash(), Name: "g", Seen: seen(8)},
			{Stamp: id(13, 2), Seq: 10, Kind: api.KMove, Obj: id(10, 2), Parent: ops.Root(), Name: "g", Seen: seen(9)},
		}},
		{rmdir("/a"), []api.Op{{Stamp: id(14, 2), Seq: 11, Kind: api.KMove, Obj: id(9, 2), Parent: ops.Trash(), Name: "a", Seen: seen(10)}}},
		{resolve("/d/f", 0), []api.Op{{Stamp: id(15, 2), Seq: 12, Kind: api.KWrite, Obj: f, Data: []byte("text"), Seen: seen(11)}}},
	} {
		r, made := p.do(x.call)
		if r.Err != api.OK || !slices.EqualFunc(made, x.want, ops.Eq) {
			t.Errorf("%v: %v, %v; want %v", x.call, r, made, x.want)
		}
		for _, o := range made {
			if !ops.May(o) {
				t.Errorf("%v made %v, which may not be", x.call, o)
			}
		}
	}
	if v := p.look().fs.Vector(); !slices.Equal(v, seen(12)) {
		t.Errorf("Vector = %v", v)
	}
}

// late is changePair with a clock that has so many stamps left.
func late(t *testing.T, left int64) *pair {
	t.Helper()
	return changePair(t, fmt.Sprint(left, " stamps left")).load(makes(api.KDir, id(1<<60-left, 50), id(1, 2), "last"))
}

func TestAClockAtItsEnd(t *testing.T) { // P21.2, P0.2
	const shape = "d(e() f=text=other last()) d~6.3(x) g g~6.1"
	for _, x := range changing() {
		for left := range int64(3) {
			p := late(t, left).wantShape(shape)
			no := func(os ...api.Op) bool { t.Errorf("%v: fits is asked of %v", x.call, os); return false }
			if left >= int64(x.made) {
				if r, made := p.do(x.call); r.Err != api.OK || len(made) != x.made {
					t.Errorf("%v: %v, %v", x.call, r, made)
				}
				p.look()
				continue
			}
			r, made := p.doIf(x.call, no)
			if !sameResult(r, api.Result{Err: api.EOVERFLOW}) || len(made) != 0 || p.clock.Now() != 1<<60 {
				t.Errorf("%v: %v, %v, the clock is at %d", x.call, r, made, p.clock.Now())
			}
			p.wantShape(shape).look()
		}
	}
}

// Where a call is refused for itself, the clock isn't asked; and what makes nothing needs none.
func TestAClockAtItsEndSaysNothingElse(t *testing.T) { // P21.2
	p := late(t, 0)
	p.refuse(api.EEXIST, mkdir("/d"), open("/g", create|excl))
	p.refuse(api.EINVAL, mkdir("/g\x019.1"), truncate("/g", -1))
	p.refuse(api.ENOENT, unlink("/x"))
	p.refuse(api.EFBIG, truncate("/g", 65537))
	p.refuse(api.EOVERFLOW, mkdir("/x"), open("/d/f", trunc|writes), write(0, "x"), rename("/d/f", "/g"))
	p.want(told{call: open("/d/f", writes), n: 2}, told{call: write(0, "")}, told{call: truncate("/g", 0)}).wantRead(2, 9, "other")
	p.load(makes(api.KDir, id(1<<60, 51), id(1, 2), "more")).refuse(api.EOVERFLOW, mkdir("/x")).look()
}

// Ahead of ENOSPC stands whatever else is to be told.
func TestNoSpaceComesLast(t *testing.T) { // P21.2, P0.2
	p := changePair(t, "a machine")
	no := func(os ...api.Op) bool { t.Errorf("fits is asked of %v", os); return false }
	for e, calls := range map[api.Errno][]api.Call{
		api.EINVAL:       {open("/x", 32), mkdir("/g\x019.1"), rename("/d", "/d/x"), truncate("/g", -1), resolve("/d/f", 2), mkdir("")},
		api.ENOENT:       {open("/x", 0), unlink("/x"), rmdir("/x"), rename("/x", "/y"), truncate("/x", 1), mkdir("/x/y")},
		api.EEXIST:       {open("/g", create|excl), mkdir("/d")},
		api.EISDIR:       {open("/d", create), unlink("/d"), rename("/g", "/d"), truncate("/d", 1), resolve("/d", 0)},
		api.ENOTDIR:      {rmdir("/g"), rename("/d", "/g"), mkdir("/g/x")},
		api.ENOTEMPTY:    {rmdir("/d"), rename(d3, "/d")},
		api.EBUSY:        {rmdir("/"), rename("/", "/x"), rename("/d", "/")},
		api.EFBIG:        {truncate("/g", 65537), write(0, strings.Repeat("x", 65535)), write(1, strings.Repeat("x", 65532))},
		api.EBADF:        {write(2, "x"), write(-1, "x")},
		api.ENAMETOOLONG: {mkdir(long), open("/"+name65, create), rename("/g", deep)},
	} {
		for _, c := range calls {
			if r, made := p.doIf(c, no); !sameResult(r, api.Result{Err: e}) || len(made) != 0 {
				t.Errorf("%s: %v, %v; want %d", short(c), r, made, e)
			}
		}
	}
	p.wantShape(clashShape).look()
}

// The clock is the caller's, too: stamps that it gives elsewhere are not used here.
func TestTheClockIsHandedIn(t *testing.T) { // P21.1, P0.5
	c := clock.New(2, 10, 4000)
	one := New(2, c)
	for want, step := range []func(){func() {}, func() { c.Next() }, func() { c.See(id(99, 5)) }} {
		step()
		_, made := one.Do(mkdir("/"+strings.Repeat("x", want+1)), nil)
		if at := []int64{11, 13, 100}[want]; len(made) != 1 || made[0].Stamp != id(at, 2) {
			t.Errorf("%v, want the time %d", made, at)
		}
	}
	if c.Now() != 100 || c.Lease() != 4000 {
		t.Errorf("Now = %d, Lease = %d", c.Now(), c.Lease())
	}
	one.Load(makes(api.KDir, id(4001, 1), ops.Root(), "late"))
	if c.Now() != 4001 || c.Lease() != 4001+4096 {
		t.Errorf("Now = %d, Lease = %d", c.Now(), c.Lease())
	}
}

// wantWhole holds that the call makes operations that may be, or changes nothing.
func wantWhole(t *testing.T, m *FS, c api.Call) {
	t.Helper()
	before := answers(m)
	r, made := m.Do(c, nil)
	for _, o := range made {
		if !ops.May(o) {
			t.Errorf("%v made %v", c, o)
		}
	}
	if after := answers(m); r.Err != api.OK && (after != before || len(made) != 0) {
		t.Errorf("%v: %v, %v, %s, was %s", c, r, made, after, before)
	}
}

// P0.1: with the stamps of another node's clock there are operations that may not be, but the calls end, and none is done by halves.
func TestAClockOfAnotherNode(t *testing.T) {
	for _, first := range []api.Call{mkdir("/c"), rename("/a", "/b"), rename("/b", "/c"), open("/c", create)} {
		m := New(2, clock.New(3, 0, 0))
		m.Load(makes(api.KDir, id(1, 1), ops.Root(), "a"))
		m.Load(makes(api.KDir, id(2, 1), ops.Root(), "b", 0, 1))
		for _, c := range []api.Call{first, mkdir("/d"), mkdir("/e"), rename("/a", "/b"), rename("/e", "/d"), open("/f", create|writes), write(0, "x"), unlink("/f"), first} {
			wantWhole(t, m, c)
		}
	}
}
