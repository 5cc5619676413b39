package vfs

import (
	"math"
	"slices"
	"strings"
	"testing"

	"lagoon/api"
)

func TestTruncate(t *testing.T) { // P21.2
	p := basePair(t, "a machine").want(
		told{call: truncate("/d/f", 4)}, // its Size
		told{call: truncate("/g", 0)},
		told{call: truncate("/d/f", 2), made: `write 3.2 "te"`},
		told{call: truncate("/d/f", 2)},
		told{call: truncate("/d/f", 5), made: `write 3.2 "te\x00\x00\x00"`},
		told{call: truncate("/d/f", 0), made: `write 3.2 ""`},
		told{call: truncate("/d/f", 0)},
		told{call: truncate("/d/f", 1), made: `write 3.2 "\x00"`},
		told{call: truncate("/g", 3), made: `write 5.2 "\x00\x00\x00"`},
	).wantShape("d(e() f=\x00) g=\x00\x00\x00").look()
	p.pass(truncate("/g", 65535), truncate("/g", 65536)).want(told{call: truncate("/g", 65536)}).pass(open("/g", 0))
	p.wantRead(0, 65536, strings.Repeat("\x00", 65536)).look()
}

func TestTruncateToNoSize(t *testing.T) { // P21.2, P0.2
	p := clashPair(t, "a machine")
	p.refuse(api.EINVAL, truncate("/d/f", -1), truncate("/g", -65537), truncate("/g", math.MinInt))
	p.refuse(api.EFBIG, truncate("/d/f", 65537), truncate("/g", 1<<30), truncate("/g", 1<<32), truncate("/g", math.MaxInt))
	p.refuse(api.ENOENT, truncate("/x", -1), truncate("/x", 65537), truncate("/x", 0))
	p.refuse(api.EISDIR, truncate("/d", -1), truncate("/d", 65537), truncate("/d", 0), truncate(d3, 0), truncate("/", -1))
	p.wantShape(clashShape).look()
}

// It is the last head that is cut, and that tells the Size; what is made has seen the others, too.
func TestTruncateOfManyHeads(t *testing.T) { // P21.2
	clashPair(t, "to the Size").want(told{call: truncate("/d/f", 5)}).wantShape(clashShape).look()
	clashPair(t, "to that of the other head").want(told{call: truncate("/d/f", 4), made: `write 3.2 "othe"`}).wantShape("d(e() f=othe) d~6.3(x) g g~6.1").look()
}

// many has a file of five heads: a, bb, nothing, dddd, eeeee.
func many(t *testing.T) *pair {
	t.Helper()
	p := basePair(t, "five heads").pass(truncate("/d/f", 0), unlink("/g"))
	return p.load(puts(id(20, 1), f, "a", 0, 0, 6), puts(id(20, 4), f, "bb", 0, 0, 6), puts(id(21, 0), f, "", 0, 0, 6), puts(id(22, 63), f, "dddd", 0, 0, 6), puts(id(2000, 3), f, "eeeee", 0, 0, 6)).wantShape("d(e() f=a=bb==dddd=eeeee)")
}

func TestConflicts(t *testing.T) { // P21.2
	p := many(t)
	r, _ := p.do(conflicts("/d/f"))
	want := []api.Entry{{Obj: id(20, 1), Size: 1}, {Obj: id(20, 4), Size: 2}, {Obj: id(21, 0)}, {Obj: id(22, 63), Size: 4}, {Obj: id(2000, 3), Size: 5}}
	if !slices.Equal(r.List, want) || r.Err != api.OK {
		t.Errorf("%v", r)
	}
	p = clashPair(t, "a machine")
	for _, x := range []struct {
		path string
		want []api.Entry
	}{
		{"/d/f", []api.Entry{{Obj: id(4, 2), Size: 4}, {Obj: id(7, 1), Size: 5}}},
		{"/g", nil},
		{g1, nil},
	} {
		if r, _ := p.do(conflicts(x.path)); !slices.Equal(r.List, x.want) || r.Err != api.OK {
			t.Errorf("%q: %v", x.path, r)
		}
	}
	p.pass(open("/d/f", writes), write(0, "one"))
	if r, _ := p.do(conflicts("/d/f")); !slices.Equal(r.List, []api.Entry{{Obj: id(9, 2), Size: 5}}) {
		t.Errorf("%v", r)
	}
	p.refuse(api.EISDIR, conflicts("/"), conflicts("/d"), conflicts(d3))
	p.refuse(api.ENOENT, conflicts("/x"), conflicts("/d/x"))
}

func TestResolve(t *testing.T) { // P21.2
	for n, data := range []string{"a", "bb", "", "dddd", "eeeee"} {
		p := many(t)
		r, made := p.do(resolve("/d/f", n))
		if r.Err != api.OK || len(made) != 1 || string(made[0].Data) != data || made[0].Obj != f || made[0].Kind != api.KWrite {
			t.Errorf("%d: %v, %v", n, r, made)
		}
		p.wantShape("d(e() f="+data+")").refuse(api.OK, resolve("/d/f", 0)).refuse(api.EINVAL, resolve("/d/f", 1), resolve("/d/f", n+1)).look()
	}
	p := many(t)
	p.refuse(api.EINVAL, resolve("/d/f", -1), resolve("/d/f", 5), resolve("/d/f", 6), resolve("/d/f", math.MinInt), resolve("/d/f", math.MaxInt), resolve("/d/f", 1<<32))
	p.look()
}

func TestResolveOfFewHeads(t *testing.T) { // P21.2, P0.2
	p := basePair(t, "a machine")
	no := func(os ...api.Op) bool { t.Errorf("fits is asked of %v", os); return false }
	p.refuse(api.OK, resolve("/d/f", 0))
	p.refuse(api.EINVAL, resolve("/d/f", 1), resolve("/d/f", -1), resolve("/g", 0), resolve("/g", -1), resolve("/g", 1)) // g was never written to
	p.doIf(resolve("/d/f", 0), no)
	p.refuse(api.EISDIR, resolve("/", 0), resolve("/", -1), resolve("/d", 0), resolve("/d", 1), resolve("/d/e", -1))
	p.refuse(api.ENOENT, resolve("/x", 0), resolve("/x", -1), resolve("/d/x", 1))
	p.wantShape(baseShape).look()
}

func TestNoFunction(t *testing.T) { // P21.2, P0.1
	p := clashPair(t, "a machine").want(told{call: open("/g", writes)})
	for _, fn := range []int{0, 17, 18, -1, -16, 32, 1 << 32, 1<<32 + 1, 1 << 62, math.MinInt, math.MinInt + 1, math.MaxInt} {
		p.refuse(api.EINVAL, api.Call{Fn: fn}, api.Call{Fn: fn, Path: "/x", To: "/y", N: 1, Data: []byte("x")}, api.Call{Fn: fn, Path: "/", Flags: create})
	}
	p.look()
}

func TestSyncAndLink(t *testing.T) { // P21.2
	p := clashPair(t, "a machine").want(told{call: open("/g", writes)})
	for _, c := range []api.Call{{}, {Path: "/g", To: "/h"}, {Path: "/no/x", To: "?", Fd: -1, N: -1, Flags: -1, Data: []byte("x")}, {Path: "/", To: "/"}, {Path: "/d", To: "/x"}} {
		c.Fn = api.CSync
		p.refuse(api.OK, c)
		c.Fn = api.CLink
		p.refuse(api.EPERM, c)
	}
	p.look()
}

// named tells which fields of a call its function names.
func named(c api.Call) api.Call {
	x := api.Call{Fn: c.Fn}
	if c.Fn == api.COpen || c.Fn >= api.CMkdir {
		x.Path = c.Path
	} else {
		x.Fd = c.Fd
	}
	switch c.Fn {
	case api.COpen:
		x.Flags = c.Flags
	case api.CRead, api.CTruncate, api.CResolve:
		x.N = c.N
	case api.CSeek:
		x.N, x.Flags = c.N, c.Flags
	case api.CWrite:
		x.Data = c.Data
	case api.CRename:
		x.To = c.To
	}
	return x
}

// What a function does not name of its call says nothing.
func TestOtherFieldsSayNothing(t *testing.T) { // P21.2, P0.5
	n := noise(7)
	for fn := 1; fn <= 16; fn++ {
		for range 60 {
			c := api.Call{
				Fn: fn, Fd: pick(&n, []int{0, 1, -1, 99}), N: pick(&n, []int{0, 1, 3, -1, 65537, math.MaxInt}), Flags: pick(&n, []int{0, 1, 2, 9, 32, -1}),
				Path: pick(&n, []string{"/g", "/d/f", "/x", "/d", "/", "?"}), To: pick(&n, []string{"/g", "/x", "/d/y", "/", "?"}), Data: pick(&n, [][]byte{nil, []byte("abc")}),
			}
			a, b := clashPair(t, "all fields").pass(open("/d/f", writes)), clashPair(t, "fields that are named").pass(open("/d/f", writes))
			r, made := a.do(c)
			k, others := b.do(named(c))
			if !sameResult(r, k) || textOf(made) != textOf(others) {
				t.Errorf("%v: %v, %s; want %v, %s", c, r, textOf(made), k, textOf(others))
			}
		}
	}
}
