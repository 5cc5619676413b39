package movetree

import (
	"fmt"
	"math"
	"strings"
	"testing"

	"lagoon/api"
	"lagoon/ops"
)

// wrong has operations that may not be, by what is wrong with them.
func wrong() map[string]api.Op {
	with := func(o api.Op, change func(o *api.Op)) api.Op {
		change(&o)
		return o
	}
	made, moved, wrote := dir(at(10), a, "x"), move(at(10), f, d, "x"), write(at(10), f, "x")
	all := map[string]api.Op{
		"zero":                    {},
		"made in the trash":       with(made, func(o *api.Op) { o.Parent = ops.Trash() }),
		"made in itself":          with(made, func(o *api.Op) { o.Parent = o.Obj }),
		"made in a later one":     with(made, func(o *api.Op) { o.Parent = at(11) }),
		"made of another ID":      with(made, func(o *api.Op) { o.Obj = at(9) }),
		"made with data":          with(made, func(o *api.Op) { o.Data = []byte{0} }),
		"moved to itself by time": with(moved, func(o *api.Op) { o.Parent = o.Stamp }),
		"moved itself":            with(moved, func(o *api.Op) { o.Obj = o.Stamp }),
		"moved a later one":       with(moved, func(o *api.Op) { o.Obj = at(11) }),
		"moved to a later one":    with(moved, func(o *api.Op) { o.Parent = id(10, 1) }),
		"moved the root":          with(moved, func(o *api.Op) { o.Obj = ops.Root() }),
		"moved the trash":         with(moved, func(o *api.Op) { o.Obj = ops.Trash() }),
		"moved with data":         with(moved, func(o *api.Op) { o.Data = []byte("x") }),
		"wrote the root":          with(wrote, func(o *api.Op) { o.Obj = ops.Root() }),
		"wrote with a name":       with(wrote, func(o *api.Op) { o.Name = "x" }),
		"wrote with a parent":     with(wrote, func(o *api.Op) { o.Parent = a }),
		"wrote too much":          with(wrote, func(o *api.Op) { o.Data = make([]byte, 65537) }),
	}
	for i, o := range []api.Op{made, file(at(10), a, "x"), moved, wrote} {
		for _, kind := range []int{math.MinInt, -1, 0, 5, math.MaxInt} {
			all[fmt.Sprint(i, " kind ", kind)] = with(o, func(o *api.Op) { o.Kind = kind })
		}
		for _, stamp := range []api.ID{{}, {Node: 1}, {Time: -1}, {Time: 1<<60 + 1}, {Time: math.MaxInt64}, {Time: 20, Node: -1}, {Time: 20, Node: 64}, {Time: 20, Node: math.MaxInt}} {
			all[fmt.Sprint(i, " stamp ", stamp)] = with(o, func(o *api.Op) { o.Stamp, o.Obj = stamp, stamp })
		}
		for _, seq := range []int64{math.MinInt64, -1, 0, 2, math.MaxInt64} {
			all[fmt.Sprint(i, " number ", seq)] = with(o, func(o *api.Op) { o.Seq = seq })
		}
		for _, seen := range []api.Vector{{1}, {-1}, {0, -1}, {0, 1<<60 + 1}, append(make(api.Vector, 64), 1)} {
			all[fmt.Sprint(i, " seen ", seen)] = with(o, func(o *api.Op) { o.Seen = seen })
		}
	}
	for i, o := range []api.Op{made, moved} {
		for _, name := range []string{"", ".", "..", "a/b", "\x00", "a\x01", strings.Repeat("n", 65), strings.Repeat("n", 1<<20)} {
			all[fmt.Sprintf("%d name %.9q of %d", i, name, len(name))] = with(o, func(o *api.Op) { o.Name = name })
		}
	}
	return all
}

func TestOperationsThatMayNotBe(t *testing.T) { // P15.1, P0.1, P0.2
	late := newPair(t, "a tree").apply(move(at(20), a, d, "x")).apply(base()...)
	for what, o := range wrong() {
		empty := New()
		if n, e := empty.Apply(o); n != 0 || e != api.EINVAL {
			t.Errorf("%s: Apply = %d, %d", what, n, e)
		}
		if n, e := late.tree.Apply(o); n != 0 || e != api.EINVAL {
			t.Errorf("%s, behind others: Apply = %d, %d", what, n, e)
		}
		if empty.Len() != 0 || empty.Skipped() != 0 {
			t.Errorf("%s: Len %d, Skipped %d", what, empty.Len(), empty.Skipped())
		}
		late.want()
	}
	// What was refused is not there, so its stamp is free.
	late.apply(dir(at(10), a, "x"), move(id(10, 1), f, d, "y")).want()
}

// oddIDs has IDs that no operation makes, and those at the edges.
func oddIDs() []api.ID {
	var ids []api.ID
	for _, time := range []int64{math.MinInt64, -1, 0, 1, 1 << 60, math.MaxInt64} {
		for _, node := range []int{math.MinInt, -1, 0, 1, 63, 64, math.MaxInt} {
			ids = append(ids, id(time, node))
		}
	}
	return ids
}

func TestOddIDs(t *testing.T) { // P0.1, P15.1, P15.2
	last := id(1<<60, 63)
	p := newPair(t, "a tree").apply(base()...).apply(file(last, a, "last"), dir(id(1, 63), a, "first"))
	want := plainOf(p.os)
	for _, x := range oddIDs() {
		p.wantOne(want, x)
		for _, y := range append(oddIDs(), c) {
			if p.tree.Below(x, y) != want.below(x, y) || p.tree.Below(y, x) != want.below(y, x) {
				t.Errorf("%v and %v: %v, %v", x, y, p.tree.Below(x, y), p.tree.Below(y, x))
			}
		}
	}
	p.want()
}

func TestNilTree(t *testing.T) { // P15.3
	var none *Tree
	for range 2 {
		for _, o := range append(base(), move(at(10), a, d, "x"), write(at(11), f, "y"), api.Op{}) {
			if n, e := none.Apply(o); n != 0 || e != api.EINVAL {
				t.Errorf("Apply(%v) = %d, %d", o, n, e)
			}
		}
		for _, id := range append(oddIDs(), a, f) {
			wantSaid(t, fmt.Sprint("nil, ", id), none, id, said{})
			if none.Below(id, ops.Root()) || none.Below(a, id) {
				t.Errorf("nil: something is below %v", id)
			}
		}
		if n, s := none.Len(), none.Skipped(); n != 0 || s != 0 {
			t.Errorf("nil: Len %d, Skipped %d", n, s)
		}
	}
}

// P0.1: a Tree that New didn't make is as New gives it, whatever it is asked first.
func TestZeroTree(t *testing.T) {
	ids := []api.ID{ops.Root(), ops.Trash(), a, f}
	for what, ask := range questions() {
		if got, want := ask(&Tree{}, ids), ask(New(), ids); got != want {
			t.Errorf("%s = %s, want %s", what, got, want)
		}
	}
	for _, order := range some(base()) {
		p := &pair{t: t, what: "zero", tree: &Tree{}}
		wantShape(t, "zero", p.apply(order...).want().tree, plainShape)
	}
}
