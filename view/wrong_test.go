package view

import (
	"fmt"
	"math"
	"strings"
	"testing"

	"lagoon/api"
	"lagoon/ops"
)

// wrong has operations that may not be, by what is wrong with them.
func wrong() map[string]api.Op {
	with := func(o api.Op, change func(o *api.Op)) api.Op {
		change(&o)
		return o
	}
	made, moved, wrote := dir(at(10), a, "x"), move(at(10), f, d, "x"), write(at(10), f, "x", 1)
	all := map[string]api.Op{
		"zero":              {},
		"made in the trash": with(made, func(o *api.Op) { o.Parent = ops.Trash() }),
		"made in itself":    with(made, func(o *api.Op) { o.Parent = o.Obj }),
		"made of another":   with(made, func(o *api.Op) { o.Obj = at(9) }),
		"made with data":    with(made, func(o *api.Op) { o.Data = []byte{0} }),
		"moved itself":      with(moved, func(o *api.Op) { o.Obj = o.Stamp }),
		"moved to a later":  with(moved, func(o *api.Op) { o.Parent = at(11) }),
		"moved the root":    with(moved, func(o *api.Op) { o.Obj = ops.Root() }),
		"moved with data":   with(moved, func(o *api.Op) { o.Data = []byte("x") }),
		"wrote the root":    with(wrote, func(o *api.Op) { o.Obj = ops.Root() }),
		"wrote the trash":   with(wrote, func(o *api.Op) { o.Obj = ops.Trash() }),
		"wrote itself":      with(wrote, func(o *api.Op) { o.Obj = o.Stamp }),
		"wrote a later one": with(wrote, func(o *api.Op) { o.Obj = at(11) }),
		"wrote with a name": with(wrote, func(o *api.Op) { o.Name = "x" }),
		"wrote to a parent": with(wrote, func(o *api.Op) { o.Parent = a }),
		"wrote too much":    with(wrote, func(o *api.Op) { o.Data = make([]byte, 65537) }),
	}
	for i, o := range []api.Op{made, file(at(10), a, "x"), moved, wrote} {
		for _, kind := range []int{math.MinInt, -1, 0, 5, math.MaxInt} {
			all[fmt.Sprint(i, " kind ", kind)] = with(o, func(o *api.Op) { o.Kind = kind })
		}
		for _, stamp := range []api.ID{{}, {Node: 1}, {Time: -1}, {Time: 1<<60 + 1}, {Time: math.MaxInt64}, {Time: 20, Node: -1}, {Time: 20, Node: 64}} {
			all[fmt.Sprint(i, " stamp ", stamp)] = with(o, func(o *api.Op) { o.Stamp, o.Obj = stamp, stamp })
		}
		for _, seq := range []int64{math.MinInt64, -1, 0, 3, math.MaxInt64} {
			all[fmt.Sprint(i, " number ", seq)] = with(o, func(o *api.Op) { o.Seq = seq })
		}
		for _, seen := range []api.Vector{{2}, {-1}, {1, -1}, {1, 1<<60 + 1}, append(make(api.Vector, 64), 1)} {
			all[fmt.Sprint(i, " seen ", seen)] = with(o, func(o *api.Op) { o.Seen = seen })
		}
	}
	for i, o := range []api.Op{made, moved} {
		for _, name := range []string{"", ".", "..", "a/b", "\x00", "x\x017.2", strings.Repeat("n", 65), strings.Repeat("n", 1<<20)} {
			all[fmt.Sprintf("%d name %.9q of %d", i, name, len(name))] = with(o, func(o *api.Op) { o.Name = name })
		}
	}
	return all
}

func TestOperationsThatMayNotBe(t *testing.T) { // P18.1, P0.1, P0.2
	p := newPair(t, "a view").apply(move(at(20), a, d, "x")).apply(base()...)
	before := answers(p.view, p.ids())
	for what, o := range wrong() {
		empty := New()
		if e := empty.Apply(o); e != api.EINVAL || empty.Len() != 0 || shape(empty, ops.Root()) != "" {
			t.Errorf("%s: Apply = %d, Len %d", what, e, empty.Len())
		}
		if e := p.view.Apply(o); e != api.EINVAL {
			t.Errorf("%s, behind others: Apply = %d", what, e)
		}
		if answers(p.view, p.ids()) != before {
			t.Fatalf("%s: what was refused is to be seen", what)
		}
	}
	// What was refused is not there, so its stamp is free.
	p.want().apply(write(at(10), f, "x", 1)).want()
}

// oddIDs has IDs that no operation makes, and those at the edges.
func oddIDs() []api.ID {
	var ids []api.ID
	for _, time := range []int64{math.MinInt64, -1, 0, 1, 1 << 60, math.MaxInt64} {
		for _, node := range []int{math.MinInt, -1, 0, 1, 63, 64, math.MaxInt} {
			ids = append(ids, id(time, node))
		}
	}
	return ids
}

func TestOddIDs(t *testing.T) { // P0.1, P18.2, P18.3
	last := id(1<<60, 63)
	p := newPair(t, "a view").apply(base()...).apply(file(last, a, "f"), dir(id(1, 63), a, "first"), write(last, at(7), "not taken"))
	want := plainOf(p.os)
	for _, x := range oddIDs() {
		p.wantOne(want, x)
		for _, y := range append(oddIDs(), c) {
			if p.view.Below(x, y) != want.below(x, y) || p.view.Below(y, x) != want.below(y, x) {
				t.Errorf("%v and %v: %v, %v", x, y, p.view.Below(x, y), p.view.Below(y, x))
			}
		}
	}
	wantPlaced(t, p.want().view, []placed{{what: "the last ID", id: last, path: path("a", "f\x011152921504606846976.63"), live: true, parent: a, name: "f", isThere: true}})
}

// wantBlind holds that the view sees nothing of the object.
func wantBlind(t *testing.T, v *View, id api.ID) {
	t.Helper()
	wantList(t, v, id, api.ENOENT)
	wantTold(t, v, []told{isGone(fmt.Sprint("nil, ", id), id)})
	wantPlaced(t, v, []placed{{what: fmt.Sprint("nil, ", id), id: id}})
	if v.Below(id, a) || v.Below(a, id) || v.Below(id, id) {
		t.Errorf("nil: something is below %v", id)
	}
}

func TestANilView(t *testing.T) { // P18.4, P0.1
	var none *View
	for range 2 {
		for what, o := range wrong() {
			if e := none.Apply(o); e != api.EINVAL {
				t.Errorf("%s: Apply = %d", what, e)
			}
		}
		for _, o := range full() {
			if e := none.Apply(o); e != api.EINVAL {
				t.Errorf("Apply(%v) = %d", o, e)
			}
		}
		for _, id := range append(oddIDs(), a, f, ops.Root(), ops.Trash()) {
			wantBlind(t, none, id)
		}
		wantWalked(t, none, []walked{{nil, api.ID{}, api.ENOENT}, {path(), api.ID{}, api.ENOENT}, {path(""), api.ID{}, api.ENOENT}, {path("a"), api.ID{}, api.ENOENT}, {path("a", "f", "x"), api.ID{}, api.ENOENT}})
		if n := none.Len(); n != 0 {
			t.Errorf("Len = %d", n)
		}
	}
}

// P0.1: a View that New didn't make is as New gives it, whatever it is asked first.
func TestZeroView(t *testing.T) {
	ids := append(oddIDs(), a, f)
	if answers(&View{}, ids) != answers(New(), ids) {
		t.Error("a zero view answers otherwise")
	}
	for _, order := range some(full()) {
		p := &pair{t: t, what: "zero", view: &View{}}
		p.apply(order...).want()
	}
}
