package content

import (
	"fmt"
	"math"
	"slices"
	"testing"

	"lagoon/api"
	"lagoon/ops"
)

// wrong has operations that are no versions, by what is wrong with them.
func wrong() map[string]api.Op {
	with := func(change func(o *api.Op)) api.Op {
		o := write(50, 1, "x", 1, 1)
		change(&o)
		return o
	}
	stamp := id(50, 1)
	made := func(kind int, parent api.ID) api.Op {
		return api.Op{Stamp: stamp, Seq: 2, Kind: kind, Obj: stamp, Parent: parent, Name: "n", Seen: api.Vector{1, 1}}
	}
	moved := made(api.KMove, ops.Trash())
	moved.Obj = id(1, 0)
	all := map[string]api.Op{
		"zero":              {},
		"KDir":              made(api.KDir, ops.Root()),
		"KFile":             made(api.KFile, id(3, 0)),
		"KMove":             moved,
		"with a name":       with(func(o *api.Op) { o.Name = "n" }),
		"with a parent":     with(func(o *api.Op) { o.Parent = id(3, 0) }),
		"in the trash":      with(func(o *api.Op) { o.Parent = ops.Trash() }),
		"too many bytes":    with(func(o *api.Op) { o.Data = make([]byte, 65537) }),
		"of itself":         with(func(o *api.Op) { o.Obj = o.Stamp }),
		"of a later one":    with(func(o *api.Op) { o.Obj = id(51, 0) }),
		"of the root":       with(func(o *api.Op) { o.Obj = ops.Root() }),
		"of the trash":      with(func(o *api.Op) { o.Obj = ops.Trash() }),
		"seen by no vector": with(func(o *api.Op) { o.Seen = nil }),
		"of a long vector":  with(func(o *api.Op) { o.Seen = append(slices.Concat(o.Seen, make(api.Vector, 62)), 1) }),
	}
	for _, kind := range []int{math.MinInt, -1, 0, 1, 2, 3, 5, math.MaxInt} {
		all[fmt.Sprint("kind ", kind)] = with(func(o *api.Op) { o.Kind = kind })
	}
	for _, id := range []api.ID{{}, {Node: 1}, {Time: -1, Node: 1}, {Time: 1<<60 + 1, Node: 1}, {Time: math.MaxInt64, Node: 1}, {Time: 50, Node: -1}, {Time: 50, Node: 64}, {Time: 50, Node: math.MinInt}} {
		all[fmt.Sprint("stamp ", id)] = with(func(o *api.Op) { o.Stamp = id })
	}
	for _, seq := range []int64{math.MinInt64, -1, 0, 1, 3, 1<<60 + 1, math.MaxInt64} {
		all[fmt.Sprint("number ", seq)] = with(func(o *api.Op) { o.Seq = seq })
	}
	for _, seen := range []api.Vector{{1}, {1, 2}, {-1, 1}, {1<<60 + 1, 1}, {1, 1, math.MinInt64}, {1, 1, math.MaxInt64}} {
		all[fmt.Sprint("seen ", seen)] = with(func(o *api.Op) { o.Seen = seen })
	}
	return all
}

func TestOperationsThatAreNoVersions(t *testing.T) { // P17.1, P0.1, P0.2
	one, two := write(10, 0, "one", 1), write(60, 2, "two", 1, 0)
	file := newPair(t, "a file").add(one, two)
	there := newPair(t, "a file that has the stamp").add(write(50, 1, "there", 1, 1))
	for what, o := range wrong() {
		empty := New()
		if e := empty.Add(o); e != api.EINVAL {
			t.Errorf("%s: Add = %d", what, e)
		}
		wantHeads(t, what, empty, 0)
		if e := file.file.Add(o); e != api.EINVAL {
			t.Errorf("%s, behind others: Add = %d", what, e)
		}
		wantHeads(t, what, file.want().file, 2, "one", "two")
		// EINVAL is told ahead of EEXIST.
		if e := there.file.Add(o); e != api.EINVAL {
			t.Errorf("%s, of a stamp that is there: Add = %d", what, e)
		}
		wantHeads(t, what, there.want().file, 1, "there")
	}
	// What was refused is not there, so its stamp is free.
	file.add(write(50, 1, "x", 1, 1))
	wantHeads(t, "a free stamp", file.file, 3, "one", "x", "two")
}

func TestANilFile(t *testing.T) { // P17.2, P0.1
	var none *File
	for what, o := range wrong() {
		if e := none.Add(o); e != api.EINVAL {
			t.Errorf("%s: Add = %d", what, e)
		}
	}
	for range 2 {
		if e := none.Add(write(10, 0, "one", 1)); e != api.EINVAL {
			t.Errorf("Add = %d", e)
		}
	}
	wantHeads(t, "a nil file", none, 0)
}

func TestNilAndEmptyListsAreTheSame(t *testing.T) { // P0.4
	for _, seen := range []api.Vector{nil, {}, {0}, make(api.Vector, 64), make(api.Vector, 1000)} {
		for _, data := range [][]byte{nil, {}} {
			o := write(10, 2, "")
			o.Seen, o.Data = seen, data
			p := newPair(t, "a file").add(o)
			wantHeads(t, "a file", p.file, 1, "")
			p.add(write(20, 1, "x", 0, 0, 1))
			wantHeads(t, "a file", p.file, 2, "x")
			if v := Of(o); Behind(v, v) || !sameVersion(v, plainOf(o)) {
				t.Errorf("Of(%v) = %v", o, v)
			}
		}
	}
}
