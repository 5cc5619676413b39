package movetree

import (
	"strings"
	"testing"

	"lagoon/api"
	"lagoon/ops"
)

// turn is a set of operations behind those of base, and the tree of all of them.
type turn struct {
	what    string
	os      []api.Op
	want    string
	skipped int
}

// wantTurns applies each turn in several orders.
func wantTurns(t *testing.T, turns []turn) {
	t.Helper()
	for _, x := range turns {
		for i, os := range some(append(base(), x.os...)) {
			p := newPair(t, x.what).apply(os...).want()
			wantShape(t, x.what, p.tree, x.want)
			if s := p.tree.Skipped(); s != x.skipped {
				t.Errorf("%s, order %d: Skipped = %d, want %d", x.what, i, s, x.skipped)
			}
		}
	}
}

const plainShape = "a(b(c()) f) d()|"

func TestMaking(t *testing.T) { // P15.1
	root, trash := ops.Root(), ops.Trash()
	wantTurns(t, []turn{
		{"nothing else", nil, plainShape, 0},
		{"a directory in the root", []api.Op{dir(at(10), root, "x")}, "a(b(c()) f) d() x()|", 0},
		{"a file in the root", []api.Op{file(at(10), root, "x")}, "a(b(c()) f) d() x|", 0},
		{"a directory in a directory", []api.Op{dir(at(10), d, "x")}, "a(b(c()) f) d(x())|", 0},
		{"a file in a directory", []api.Op{file(at(10), c, "x")}, "a(b(c(x)) f) d()|", 0},
		{"a name that is taken", []api.Op{file(at(10), a, "f"), dir(at(11), a, "f")}, "a(b(c()) f f f()) d()|", 0},
		{"in a directory that was just made", []api.Op{dir(at(10), d, "x"), file(at(11), at(10), "y")}, "a(b(c()) f) d(x(y))|", 0},
		{"in what is not there", []api.Op{dir(at(10), at(9), "x")}, plainShape, 1},
		{"in what is there later", []api.Op{file(at(10), id(1, 1), "x"), dir(id(10, 1), root, "y")}, "a(b(c()) f) d() y()|", 1},
		{"in the stamp of a move", []api.Op{move(at(10), d, a, "d"), file(at(11), at(10), "x")}, "a(b(c()) f d())|", 1},
		{"in the stamp of a write", []api.Op{write(at(10), f, "z"), file(at(11), at(10), "x")}, plainShape, 1},
		{"in a file", []api.Op{dir(at(10), f, "x"), file(at(11), f, "y")}, plainShape, 2},
		{"in what was not made", []api.Op{dir(at(10), f, "x"), dir(at(11), at(10), "y"), file(at(12), at(11), "z")}, plainShape, 3},
		{"in a directory in the trash", []api.Op{move(at(10), d, trash, "d"), dir(at(11), d, "x"), file(at(12), at(11), "y")}, "a(b(c()) f)|d(x(y))", 0},
		{"in a directory below the trash", []api.Op{move(at(10), a, trash, "a"), file(at(11), c, "x")}, "d()|a(b(c(x)) f)", 0},
		{"in a directory that moved", []api.Op{move(at(10), a, d, "a"), file(at(11), b, "x")}, "d(a(b(c() x) f))|", 0},
	})
}

// No operation that may be makes an object in the trash or in itself.
func TestMakingInTheTrashOrInItself(t *testing.T) { // P15.1
	for _, kind := range []int{api.KDir, api.KFile} {
		for _, parent := range []api.ID{ops.Trash(), at(10)} {
			o := api.Op{Stamp: at(10), Seq: 1, Kind: kind, Obj: at(10), Parent: parent, Name: "x"}
			p := newPair(t, "a tree").apply(base()...)
			if n, e := p.tree.Apply(o); n != 0 || e != api.EINVAL {
				t.Errorf("Apply(%v) = %d, %d", o, n, e)
			}
			wantShape(t, "in the trash or in itself", p.want().tree, plainShape)
		}
	}
}

func TestMoving(t *testing.T) { // P15.1
	root, trash := ops.Root(), ops.Trash()
	wantTurns(t, []turn{
		{"to another directory", []api.Op{move(at(10), f, d, "x")}, "a(b(c())) d(x)|", 0},
		{"with all that is below", []api.Op{move(at(10), a, d, "x")}, "d(x(b(c()) f))|", 0},
		{"to the root", []api.Op{move(at(10), c, root, "x")}, "a(b() f) x() d()|", 0},
		{"to the trash", []api.Op{move(at(10), b, trash, "x")}, "a(f) d()|x(c())", 0},
		{"out of the trash", []api.Op{move(at(10), b, trash, "x"), move(at(11), b, d, "y")}, "a(f) d(y(c()))|", 0},
		{"out of the trash to the root", []api.Op{move(at(10), f, trash, "x"), move(at(11), f, root, "y")}, "a(b(c())) y d()|", 0},
		{"out of what is in the trash", []api.Op{move(at(10), a, trash, "x"), move(at(11), b, root, "y")}, "y(c()) d()|x(f)", 0},
		{"into what is in the trash", []api.Op{move(at(10), a, trash, "x"), move(at(11), d, c, "y")}, "|x(b(c(y())) f)", 0},
		{"to where it is", []api.Op{move(at(10), b, a, "b"), move(at(11), d, root, "d")}, plainShape, 0},
		{"to the trash twice", []api.Op{move(at(10), d, trash, "d"), move(at(11), d, trash, "d")}, "a(b(c()) f)|d()", 0},
		{"to another name", []api.Op{move(at(10), b, a, "x"), move(at(11), a, root, "y")}, "y(x(c()) f) d()|", 0},
		{"to a name that is taken", []api.Op{move(at(10), d, a, "f")}, "a(b(c()) f f())|", 0},
		{"up by one step", []api.Op{move(at(10), c, a, "x")}, "a(b() x() f) d()|", 0},
		{"what is not there", []api.Op{move(at(10), at(9), root, "x"), move(at(11), at(9), trash, "x")}, plainShape, 2},
		{"what is there later", []api.Op{move(at(10), id(9, 1), d, "x"), dir(id(10, 1), root, "y")}, "a(b(c()) f) d() y()|", 1},
		{"what was not made", []api.Op{dir(at(10), f, "x"), move(at(11), at(10), root, "x")}, plainShape, 2},
		{"the stamp of a move or of a write", []api.Op{move(at(10), f, d, "f"), write(at(11), f, "z"), move(at(12), at(10), root, "x"), move(at(13), at(11), root, "x")}, "a(b(c())) d(f)|", 2},
		{"to what is not there", []api.Op{move(at(10), f, at(9), "x")}, plainShape, 1},
		{"what is not there to what is not there", []api.Op{move(at(10), at(8), at(9), "x"), move(at(11), at(8), at(8), "x")}, plainShape, 2},
		{"to a file", []api.Op{move(at(10), d, f, "x"), file(at(11), d, "g"), move(at(12), at(11), f, "x")}, "a(b(c()) f) d(g)|", 2},
		{"a file to itself", []api.Op{move(at(10), f, f, "x")}, plainShape, 1},
		{"to itself", []api.Op{move(at(10), d, d, "x"), move(at(11), b, b, "x")}, plainShape, 2},
		{"below itself", []api.Op{move(at(10), a, b, "x")}, plainShape, 1},
		{"below itself by two steps", []api.Op{move(at(10), a, c, "x")}, plainShape, 1},
		{"below itself in the trash", []api.Op{move(at(10), a, trash, "x"), move(at(11), a, c, "y")}, "d()|x(b(c()) f)", 1},
		{"below what was below it", []api.Op{move(at(10), b, root, "x"), move(at(11), a, c, "y")}, "x(c(y(f))) d()|", 0},
		{"each below the other one", []api.Op{move(at(10), a, d, "x"), move(at(11), d, a, "y")}, "d(x(b(c()) f))|", 1},
		{"each below the other one, the other way round", []api.Op{move(at(11), a, d, "x"), move(at(10), d, a, "y")}, "a(b(c()) f y())|", 1},
		{"in a ring", []api.Op{move(at(10), d, c, "x"), move(at(11), b, d, "y"), move(at(12), a, d, "z")}, "a(b(c(x())) f)|", 2},
	})
}

// IDs stand by Time, then by Node, and so do stamps: of two moves the later one holds.
func TestStampsOfOneTime(t *testing.T) { // P15.1
	wantTurns(t, []turn{
		{"by node", []api.Op{move(id(10, 2), f, d, "two"), move(id(10, 1), f, d, "one"), move(id(10, 63), f, d, "last"), move(id(9, 63), f, d, "early")}, "a(b(c())) d(last)|", 0},
		{"by time ahead of node", []api.Op{move(id(11, 0), f, d, "late"), move(id(10, 63), f, d, "early")}, "a(b(c())) d(late)|", 0},
		{"made at one time", []api.Op{dir(id(10, 0), ops.Root(), "x"), file(id(10, 1), at(10), "y"), move(id(10, 2), id(10, 1), d, "z")}, "a(b(c()) f) d(z) x()|", 0},
		{"the last times", []api.Op{dir(id(1<<60, 62), d, "x"), file(id(1<<60, 63), id(1<<60, 62), "y")}, "a(b(c()) f) d(x(y))|", 0},
	})
}

func TestWritesDoNothing(t *testing.T) { // P15.1, P15.2
	p := newPair(t, "writes")
	for i, o := range []api.Op{write(at(10), f, "x"), write(at(11), at(9), "to nothing"), write(at(12), d, "to a directory"), write(id(3, 5), at(3), ""), write(at(9), a, strings.Repeat("x", 65536))} {
		p.apply(o).want()
		if n, s := p.tree.Len(), p.tree.Skipped(); n != 0 || s != 0 {
			t.Errorf("behind write %d: Len %d, Skipped %d", i, n, s)
		}
	}
	wantShape(t, "writes alone", p.tree, "|")
	wantShape(t, "writes and others", p.apply(base()...).want().tree, plainShape)
	if s := p.tree.Skipped(); s != 0 {
		t.Errorf("Skipped = %d", s)
	}
}

func TestNumberOfApply(t *testing.T) { // P15.1
	tree := New()
	for i, x := range []struct {
		o    api.Op
		want int
	}{
		{dir(at(20), ops.Root(), "x"), 0},
		{dir(at(40), ops.Root(), "x"), 0},
		{move(at(60), at(20), at(40), "y"), 0},
		{dir(at(10), ops.Root(), "ahead of all"), 3},
		{dir(at(70), ops.Root(), "behind all"), 0},
		{dir(at(30), ops.Root(), "between"), 3},
		{write(at(50), at(9), "a write"), 2},
		{move(at(45), at(9), at(9), "what does nothing"), 3},
		{dir(at(48), at(9), "ahead of a write"), 3},
		{dir(id(50, 1), ops.Root(), "of one time, a greater node"), 2},
		{dir(id(70, 63), ops.Root(), "of one time, behind all"), 0},
		{dir(id(49, 63), ops.Root(), "of an earlier time"), 5},
		{write(at(1), id(0, 5), "a write that may not be"), 0},
		{write(at(2), at(1), "a write ahead of all"), 12},
	} {
		n, e := tree.Apply(x.o)
		if n != x.want || (e == api.OK) != ops.May(x.o) {
			t.Errorf("Apply %d: %d, %d; want %d", i, n, e, x.want)
		}
	}
}

// The number counts those that were applied, looked at or not.
func TestNumberOfApplyLookedAtOrNot(t *testing.T) { // P15.1
	for every := range 5 {
		n := noise(every)
		for range 20 {
			p := newPair(t, "a tree")
			for i, o := range n.shuffled(append(base(), write(at(6), f, "x"), move(at(7), f, d, "y"), move(at(8), d, at(9), "z"), dir(id(8, 1), f, "w"))) {
				p.apply(o)
				if every > 0 && i%every == 0 {
					p.want()
				}
			}
			p.want()
		}
	}
}

// Whatever is applied with a stamp that was applied, nothing changes.
func TestApplyTwice(t *testing.T) { // P15.1, P0.2
	other := append(base(), move(at(10), f, d, "x"), move(at(11), a, b, "skipped"), write(at(12), f, "y"), dir(at(13), f, "skipped"))
	for _, os := range some(other) {
		p := newPair(t, "a tree").apply(os...).want()
		for _, o := range os {
			for _, k := range again(o.Stamp) {
				if n, e := p.tree.Apply(k); n != 0 || e != api.EEXIST {
					t.Fatalf("Apply(%v) = %d, %d", k, n, e)
				}
				p.want()
			}
		}
		p.apply(move(at(9), d, a, "late")).want()
	}
}

// again has operations of each kind with the stamp, such as may be.
func again(stamp api.ID) []api.Op {
	os := []api.Op{dir(stamp, ops.Root(), "again"), file(stamp, ops.Root(), "again")}
	if first := id(1, 0); stamp != first {
		os = append(os, dir(stamp, first, "again"), move(stamp, first, ops.Trash(), "again"), move(stamp, first, ops.Root(), "again"), write(stamp, first, "again"))
	}
	counted := dir(stamp, ops.Root(), "again")
	counted.Seq, counted.Seen = 3, append(make(api.Vector, stamp.Node), 2)
	return append(os, counted)
}

// The one that comes first holds, whatever the other one says.
func TestOneObjectMadeTwice(t *testing.T) { // P15.1
	x, y := dir(at(10), ops.Root(), "x"), file(at(10), d, "y")
	for _, o := range [][]api.Op{{x, y}, {y, x}} {
		p := newPair(t, "made twice").apply(base()...).apply(o...).want()
		if want := o[0].Kind == api.KDir; p.tree.Dir(at(10)) != want || p.tree.Len() != 6 || p.tree.Skipped() != 0 {
			t.Errorf("Dir %v, Len %d, Skipped %d", p.tree.Dir(at(10)), p.tree.Len(), p.tree.Skipped())
		}
	}
}

func TestMayNotBeAheadOfThere(t *testing.T) { // P15.1, P0.2
	p := newPair(t, "a tree").apply(base()...)
	for _, o := range base() {
		o.Name = "no/name"
		if n, e := p.tree.Apply(o); n != 0 || e != api.EINVAL {
			t.Errorf("Apply(%v) = %d, %d", o, n, e)
		}
	}
	wantShape(t, "a tree", p.want().tree, plainShape)
}
