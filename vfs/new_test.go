package vfs

import (
	"fmt"
	"math"
	"slices"
	"testing"

	"lagoon/api"
	"lagoon/clock"
	"lagoon/ops"
)

func TestNew(t *testing.T) { // P21.1
	for _, x := range []struct {
		node  int
		there bool
	}{
		{0, true}, {1, true}, {2, true}, {62, true}, {63, true},
		{-1, false}, {64, false}, {65, false}, {128, false}, {math.MinInt, false}, {math.MaxInt, false}, {1 << 32, false},
	} {
		if there := New(x.node, clock.New(0, 5, 5)) != nil; there != x.there {
			t.Errorf("New(%d) is there: %v", x.node, there)
		}
		if New(x.node, nil) != nil {
			t.Errorf("New(%d, nil) is there", x.node)
		}
		if x.there {
			p := newPairOf(t, fmt.Sprint("node ", x.node), x.node, 7).look().wantShape("")
			p.want(told{call: mkdir("/a"), made: fmt.Sprintf("dir 8.%d in 0.0 as a", x.node)}).look()
		}
	}
}

func TestNoOperations(t *testing.T) { // P21.1
	f := New(3, clock.New(3, 0, 0))
	if len(f.Vector()) != 0 || f.Open() != 0 || f.View() == nil || f.View().Len() != 0 {
		t.Errorf("a new machine: %v, %d, %v", f.Vector(), f.Open(), f.View())
	}
	for _, c := range []api.Call{readdir("/"), stat("/"), {Fn: api.CSync}} {
		if r, made := f.Do(c, nil); r.Err != api.OK || len(r.List) != 0 || r.Stat.Dir != (c.Fn == api.CStat) || len(made) != 0 {
			t.Errorf("%v of a new machine: %v, %v", c, r, made)
		}
	}
}

func TestLoad(t *testing.T) { // P21.1
	p := newPair(t, "a machine")
	one := id(9, 1)
	p.load(makes(api.KDir, one, ops.Root(), "one")).wantShape("one()")
	p.load(makes(api.KFile, id(10, 1), one, "two", 0, 1)).wantShape("one(two)")
	p.load(makes(api.KFile, id(4, 3), ops.Root(), "three")).wantShape("one(two) three")
	p.load(puts(id(10, 3), id(4, 3), "text", 0, 2, 0, 1)).wantShape("one(two) three=text")
	p.load(moves(id(11, 63), one, ops.Trash(), "one", 0, 1)).wantShape("three=text")
	p.load(makes(api.KDir, id(3, 0), ops.Root(), "zeros", 0, 0, 0, 0)).wantShape("three=text zeros()")
	p.load(puts(id(100, 0), id(99, 0), "to what is not there", 1)).wantShape("three=text zeros()")
	p.load(makes(api.KFile, id(2, 0), ops.Root(), "earlier than its own last one", 2)).wantShape("earlier than its own last one three=text zeros()")
	want := make(api.Vector, 64)
	want[0], want[1], want[3], want[63] = 3, 2, 2, 1
	if v := p.look().fs.Vector(); !slices.Equal(v, want) {
		t.Errorf("Vector = %v", v)
	}
}

// refuseLoads holds that each of the operations is refused, and that nothing is to be seen of it.
func (p *pair) refuseLoads(e api.Errno, os ...api.Op) {
	p.t.Helper()
	before := *p.clock
	for _, o := range os {
		if got := p.loadOne(o); got != e {
			p.t.Errorf("%s: Load(%s) = %d, want %d", p.what, short(o), got, e)
		}
	}
	if *p.clock != before {
		p.t.Errorf("%s: the clock has seen what was refused", p.what)
	}
	p.look()
}

// with gives the operation with a change.
func with(o api.Op, change func(o *api.Op)) api.Op {
	change(&o)
	return o
}

func TestLoadOfWhatMayNotBe(t *testing.T) { // P21.1, P0.2
	made := makes(api.KDir, id(50, 1), ops.Root(), "x", 0, 2)
	wrote := puts(id(50, 1), f, "x", 0, 2)
	moved := moves(id(50, 1), f, d, "x", 0, 2)
	p := clashPair(t, "a machine")
	p.refuseLoads(api.EINVAL,
		api.Op{},
		with(made, func(o *api.Op) { o.Kind = 0 }),
		with(made, func(o *api.Op) { o.Kind = 5 }),
		with(made, func(o *api.Op) { o.Kind = math.MinInt }),
		with(made, func(o *api.Op) { o.Obj = id(49, 1) }),
		with(made, func(o *api.Op) { o.Parent = ops.Trash() }),
		with(made, func(o *api.Op) { o.Parent = id(50, 1) }),
		with(made, func(o *api.Op) { o.Name = "" }),
		with(made, func(o *api.Op) { o.Name = "x\x015.0" }),
		with(made, func(o *api.Op) { o.Data = []byte("x") }),
		with(made, func(o *api.Op) { o.Seen = api.Vector{0, 2, -1} }),
		with(made, func(o *api.Op) { o.Seen = append(append(api.Vector{0, 2}, make(api.Vector, 62)...), 1) }),
		with(made, func(o *api.Op) { o.Seen = api.Vector{0, 1} }),
		with(made, func(o *api.Op) { o.Seen = nil }),
		with(made, func(o *api.Op) { o.Stamp.Node, o.Obj.Node = -1, -1 }),
		with(made, func(o *api.Op) { o.Stamp.Node, o.Obj.Node = 64, 64 }),
		with(made, func(o *api.Op) { o.Stamp.Node, o.Obj.Node = math.MaxInt, math.MaxInt }),
		with(made, func(o *api.Op) { o.Stamp.Time, o.Obj.Time = 0, 0 }),
		with(made, func(o *api.Op) { o.Stamp.Time, o.Obj.Time = 1<<60+1, 1<<60+1 }),
		with(made, func(o *api.Op) { o.Seq = 0 }),
		with(made, func(o *api.Op) { o.Seq = math.MinInt64 }),
		with(made, func(o *api.Op) { o.Seq = math.MaxInt64 }),
		with(moved, func(o *api.Op) { o.Obj = o.Stamp }),
		with(moved, func(o *api.Op) { o.Obj = ops.Root() }),
		with(wrote, func(o *api.Op) { o.Name = "x" }),
		with(wrote, func(o *api.Op) { o.Data = make([]byte, 65537) }),
	)
	p.load(made).look().wantShape("d(e() f=text=other) d~6.3(x) g g~6.1 x()")
}

func TestLoadOfWhatIsNotDue(t *testing.T) { // P21.1, P0.2
	p := clashPair(t, "a machine") // of node 1 two, of node 2 five, of node 3 two
	at := func(stamp api.ID, seen ...int64) api.Op { return makes(api.KDir, stamp, ops.Root(), "x", seen...) }
	p.refuseLoads(api.EINVAL,
		at(id(50, 1)),                      // the first one of a node of which two are there
		at(id(50, 1), 0, 1),                // the second one
		at(id(50, 1), 0, 3),                // the fourth one
		at(id(50, 1), 0, 1<<60-1),          // the last one that may be
		at(id(50, 2), 0, 0, 4),             // the fifth one of its own node
		at(id(50, 2), 0, 0, 6),             // the seventh one
		at(id(50, 0), 1),                   // the second one of a node of which none is there
		at(id(50, 1), 1, 2),                // has seen one of the node 0
		at(id(50, 1), 0, 2, 6),             // has seen six of the node 2
		at(id(50, 1), 0, 2, 5, 3),          // has seen three of the node 3
		at(id(50, 1), 0, 2, 5, 2, 1),       // has seen one of the node 4
		at(id(50, 0), 0, 0, 0, 0, 0, 0, 1), // has seen one of the node 6
	)
	for _, o := range clashes() {
		p.refuseLoads(api.EINVAL, o)
	}
	p.load(at(id(50, 1), 0, 2, 5, 2), at(id(51, 0)), at(id(52, 2), 0, 0, 5), at(id(53, 2), 1, 3, 6, 2)).look()
}

func TestLoadOfAStampThatIsThere(t *testing.T) { // P21.1, P0.2
	p := clashPair(t, "a machine")
	for _, o := range clashes() {
		stamp := o.Stamp
		seen := p.plain.vector()
		p.refuseLoads(api.EEXIST, makes(api.KDir, stamp, ops.Root(), "x", seen...), puts(stamp, d, "x", seen...), moves(stamp, f, ops.Root(), "x", seen...))
	}
	p.wantShape(clashShape)
}

// What is not due is EINVAL, also with a stamp that is there.
func TestLoadTellsWhatIsNotDueFirst(t *testing.T) { // P21.1, P0.2
	p := clashPair(t, "a machine")
	p.refuseLoads(api.EINVAL,
		makes(api.KDir, id(6, 1), ops.Root(), "x"),
		makes(api.KDir, id(6, 1), ops.Root(), "x", 0, 3),
		makes(api.KDir, id(6, 1), ops.Root(), "x", 1, 2),
		makes(api.KDir, id(6, 1), ops.Root(), "", 0, 2),
	)
	p.refuseLoads(api.EEXIST, makes(api.KDir, id(6, 1), ops.Root(), "x", 0, 2))
}

func TestLoadOfItsOwn(t *testing.T) { // P21.1
	p := newPair(t, "a machine")
	p.load(makes(api.KDir, id(7, 2), ops.Root(), "own"), makes(api.KFile, id(8, 2), id(7, 2), "x", 0, 0, 1)).wantShape("own(x)")
	r, made := p.do(mkdir("/own/y"))
	want := makes(api.KDir, id(9, 2), id(7, 2), "y", 0, 0, 2)
	if r.Err != api.OK || len(made) != 1 || !ops.Eq(made[0], want) {
		t.Errorf("%v, %v; want %v", r, made, want)
	}
	p.refuseLoads(api.EINVAL, made[0])
	p.load(makes(api.KDir, id(10, 2), ops.Root(), "z", 0, 0, 3)).look()
}

func TestTheClockSeesWhatIsLoaded(t *testing.T) { // P21.1
	p := newPair(t, "a machine")
	p.want(told{call: mkdir("/a"), made: "dir 1.2 in 0.0 as a"})
	p.load(makes(api.KDir, id(500, 1), ops.Root(), "b"))
	p.want(told{call: mkdir("/c"), made: "dir 501.2 in 0.0 as c"})
	p.load(makes(api.KDir, id(40, 3), ops.Root(), "d")) // an earlier stamp does not put it back
	p.want(told{call: mkdir("/e"), made: "dir 502.2 in 0.0 as e"})
	p.load(makes(api.KDir, id(503, 0), ops.Root(), "f"))
	p.want(told{call: mkdir("/g"), made: "dir 504.2 in 0.0 as g"})
	p.refuseLoads(api.EINVAL, makes(api.KDir, id(9000, 5), ops.Root(), "h", 9))
	p.want(told{call: mkdir("/i"), made: "dir 505.2 in 0.0 as i"})
}

func TestOpenAndClear(t *testing.T) { // P21.1
	p := basePair(t, "a machine")
	p.want(told{call: open("/d/f", writes)}, told{call: open("/g", 0), n: 1}, told{call: open("/g", 0), n: 2}, told{call: closing(1)})
	if n := p.fs.Open(); n != 2 {
		t.Errorf("Open = %d", n)
	}
	p.clear()
	if n := p.fs.Open(); n != 0 {
		t.Errorf("Open = %d behind Clear", n)
	}
	p.refuse(api.EBADF, read(0, 1), write(0, "x"), seek(0, 0, 0), closing(0), closing(2), closing(1)).look()
	p.wantShape(baseShape).want(told{call: open("/g", 0)}, told{call: open("/d/f", 0), n: 1}).wantRead(1, 9, "text")
	for range 2 {
		p.clear()
	}
	p.look()
}

func TestANilMachine(t *testing.T) { // P21.3, P0.1
	var none *FS
	for range 2 {
		for fn := -1; fn < 18; fn++ {
			for _, c := range []api.Call{{Fn: fn}, {Fn: fn, Path: "/", To: "/x", Flags: 1}, {Fn: fn, Path: "?", N: -1, Fd: -1}} {
				if r, made := none.Do(c, func(os ...api.Op) bool { t.Error("fits is asked"); return true }); !sameResult(r, api.Result{Err: api.EIO}) || len(made) != 0 {
					t.Errorf("%v: %v, %v", c, r, made)
				}
			}
		}
		for _, o := range append(clashes(), api.Op{}) {
			if e := none.Load(o); e != api.EINVAL {
				t.Errorf("Load(%v) = %d", o, e)
			}
		}
		if len(none.Vector()) != 0 || none.Open() != 0 || none.View() != nil {
			t.Errorf("%v, %d, %v", none.Vector(), none.Open(), none.View())
		}
		none.Clear()
	}
}

// P0.1: a machine that New did not make has no clock, but it ends all calls.
func TestAZeroMachine(t *testing.T) {
	var zero FS
	for fn := -1; fn < 18; fn++ {
		for _, c := range []api.Call{{Fn: fn}, {Fn: fn, Path: "/", To: "/x", Flags: 1}, {Fn: fn, Path: "/x", Flags: 9}} {
			if _, made := zero.Do(c, nil); len(made) != 0 {
				t.Errorf("%v made %v", c, made)
			}
		}
	}
	for _, o := range append(clashes(), api.Op{}) {
		zero.Load(o)
	}
	zero.Clear()
	if len(zero.Vector()) != 0 || zero.Open() != 0 || zero.View().Len() != 0 {
		t.Errorf("%v, %d, %v", zero.Vector(), zero.Open(), zero.View())
	}
}

// P0.1: whoever brings into the view what the machine does not know of may get errors, but all calls end.
func TestAViewThatKnowsMore(t *testing.T) {
	m := New(2, clock.New(2, 0, 0))
	if e := m.View().Apply(makes(api.KDir, id(1, 2), ops.Root(), "a")); e != api.OK {
		t.Fatal(e)
	}
	m.View().Apply(makes(api.KFile, id(1<<60, 63), ops.Root(), "z"))
	if r, made := m.Do(mkdir("/b"), nil); r.Err == api.OK || len(made) != 0 || len(m.Vector()) != 0 {
		t.Errorf("its stamp is there: %v, %v, %v", r, made, m.Vector())
	}
	if r, made := m.Do(unlink("/z"), nil); r.Err == api.OK || len(made) != 0 || len(m.Vector()) != 0 {
		t.Errorf("a later object: %v, %v, %v", r, made, m.Vector())
	}
	if r, made := m.Do(mkdir("/b"), nil); r.Err != api.OK || len(made) != 1 {
		t.Errorf("behind that: %v, %v", r, made)
	}
	if e := m.Load(makes(api.KDir, id(1, 2), ops.Root(), "a", 0, 0, 1)); e != api.EEXIST {
		t.Errorf("Load = %d", e)
	}
}
