package view

import (
	"fmt"
	"strings"
	"testing"

	"lagoon/api"
	"lagoon/ops"
)

// turn is a set of operations behind those of base, and what is seen of all of them.
type turn struct {
	what string
	os   []api.Op
	want string
}

// wantTurns applies each turn in several orders.
func wantTurns(t *testing.T, turns []turn) {
	t.Helper()
	for _, x := range turns {
		for i, os := range some(append(base(), x.os...)) {
			what := fmt.Sprint(x.what, ", order ", i)
			wantShape(t, what, newPair(t, what).apply(os...).want().view, x.want)
		}
	}
}

func TestNoOperation(t *testing.T) { // P18.1, P18.2, P18.3
	p := newPair(t, "no operation").want()
	if n := p.view.Len(); n != 0 {
		t.Errorf("Len = %d", n)
	}
	if id, e := p.view.Walk(nil); id != ops.Root() || e != api.OK {
		t.Errorf("Walk() = %v, %d", id, e)
	}
	if l, e := p.view.List(ops.Root()); len(l) != 0 || e != api.OK {
		t.Errorf("List = %v, %d", l, e)
	}
	if s, e := p.view.Stat(ops.Root()); s != (api.Stat{Dir: true}) || e != api.OK {
		t.Errorf("Stat = %v, %d", s, e)
	}
}

func TestTheTreeOfAll(t *testing.T) { // P18.1
	root, trash := ops.Root(), ops.Trash()
	wantTurns(t, []turn{
		{"nothing else", nil, plainShape},
		{"a directory", []api.Op{dir(at(10), c, "x")}, "a(b(c(x())) f=text) d()"},
		{"a file", []api.Op{file(at(10), d, "x")}, "a(b(c()) f=text) d(x)"},
		{"a move", []api.Op{move(at(10), b, d, "x")}, "a(f=text) d(x(c()))"},
		{"a move of a file takes its bytes along", []api.Op{move(at(10), f, root, "x")}, "a(b(c())) d() x=text"},
		{"to the trash", []api.Op{move(at(10), a, trash, "a")}, "d()"},
		{"to the trash and back", []api.Op{move(at(10), a, trash, "a"), move(at(11), a, d, "x")}, "d(x(b(c()) f=text))"},
		{"out of what is in the trash", []api.Op{move(at(10), a, trash, "a"), move(at(11), f, d, "x")}, "d(x=text)"},
		{"into what is in the trash", []api.Op{move(at(10), d, trash, "d"), move(at(11), f, d, "x")}, "a(b(c()))"},
		{"in what is not there", []api.Op{dir(at(10), at(9), "x"), file(at(11), at(9), "y")}, plainShape},
		{"below itself", []api.Op{move(at(10), a, c, "x")}, plainShape},
		{"each below the other one", []api.Op{move(at(10), a, d, "x"), move(at(11), d, a, "y")}, "d(x(b(c()) f=text))"},
		{"the later one holds", []api.Op{move(at(11), f, d, "late"), move(at(10), f, root, "early")}, "a(b(c())) d(late=text)"},
		{"of one time, the greater node holds", []api.Op{move(id(10, 2), f, d, "two"), move(id(10, 1), f, d, "one")}, "a(b(c())) d(two=text)"},
	})
}

func TestWrites(t *testing.T) { // P18.1
	root, trash := ops.Root(), ops.Trash()
	wantTurns(t, []turn{
		{"a later one", []api.Op{write(at(10), f, "late", 1)}, "a(b(c()) f=late) d()"},
		{"an earlier one that has not seen it", []api.Op{write(id(5, 1), f, "early")}, plainShape},
		{"a later one that has not seen it", []api.Op{write(id(10, 1), f, "late")}, "a(b(c()) f=late) d()"},
		{"an earlier one that has seen it", []api.Op{write(id(5, 1), f, "seen", 1)}, "a(b(c()) f=seen) d()"},
		{"of no bytes", []api.Op{write(at(10), f, "", 1)}, "a(b(c()) f) d()"},
		{"to another file", []api.Op{file(at(10), root, "g"), write(at(11), at(10), "other", 1)}, "a(b(c()) f=text) d() g=other"},
		{"to what is in the trash", []api.Op{move(at(10), f, trash, "f"), write(at(11), f, "gone", 1)}, "a(b(c())) d()"},
		{"to what comes back", []api.Op{move(at(10), f, trash, "f"), write(at(11), f, "back", 1), move(at(12), f, d, "f")}, "a(b(c())) d(f=back)"},
		{"to what is below the trash", []api.Op{move(at(10), a, trash, "a"), write(at(11), f, "below", 1), move(at(12), a, root, "a")}, "a(b(c()) f=below) d()"},
		{"to what is not there", []api.Op{write(at(10), at(9), "nothing")}, plainShape},
		{"to what was not made", []api.Op{file(at(10), at(9), "x"), write(at(11), at(10), "nothing")}, plainShape},
		{"to the stamp of a move", []api.Op{move(at(10), d, root, "e"), write(at(11), at(10), "nothing")}, "a(b(c()) f=text) e()"},
		{"to the stamp of a write", []api.Op{write(at(11), at(6), "nothing")}, plainShape},
		{"to a directory", []api.Op{write(at(10), b, "nothing"), write(at(11), d, "nothing")}, plainShape},
	})
}

// came is an operation, and what is seen behind it.
type came struct {
	o    api.Op
	want string
}

func wantCame(t *testing.T, what string, all []came) {
	t.Helper()
	looked, not := newPair(t, what), newPair(t, what)
	for i, x := range all {
		wantShape(t, fmt.Sprint(what, ", behind ", i), looked.apply(x.o).want().view, x.want)
		if n := looked.view.Len(); n != i+1 {
			t.Errorf("%s: Len = %d behind %d", what, n, i)
		}
		not.apply(x.o)
	}
	not.want()
}

func TestOtherOrdersThanThatOfTheStamps(t *testing.T) { // P18.1
	root, trash := ops.Root(), ops.Trash()
	wantCame(t, "a write ahead of the make of its file", []came{
		{write(at(10), at(2), "early"), ""},
		{write(at(12), at(2), "more", 1), ""},
		{file(at(2), root, "x"), "x=more"},
		{write(id(11, 1), at(2), "late", 2), "x=late"},
	})
	wantCame(t, "a make ahead of its parent's", []came{
		{write(at(4), at(3), "data"), ""},
		{file(at(3), at(2), "x"), ""},
		{dir(at(2), at(1), "y"), ""},
		{dir(at(1), root, "z"), "z(y(x=data))"},
	})
	wantCame(t, "a move that is passed over and taken up later", []came{
		{dir(at(1), root, "x"), "x()"},
		{dir(at(2), at(1), "y"), "x(y())"},
		{move(at(20), at(1), at(2), "z"), "x(y())"},
		{move(at(10), at(2), root, "y"), "y(z())"},
	})
	wantCame(t, "a move to what comes later", []came{
		{file(at(1), root, "x"), "x"},
		{move(at(20), at(1), at(2), "z"), "x"},
		{write(at(15), at(1), "data"), "x=data"},
		{dir(at(2), root, "y"), "y(z=data)"},
	})
	wantCame(t, "a move that is taken up and passed over later", []came{
		{dir(at(1), root, "x"), "x()"},
		{dir(at(2), root, "y"), "x() y()"},
		{move(at(20), at(1), at(2), "u"), "y(u())"},
		{move(at(10), at(2), at(1), "v"), "x(v())"},
		{move(at(15), at(2), trash, "t"), ""},
		{move(at(30), at(1), root, "w"), "w()"},
	})
	wantCame(t, "a name that another one keeps, and that is free later", []came{
		{file(at(5), root, "x"), "x"},
		{file(at(3), root, "x"), "x x~5.0"},
		{move(at(10), at(3), root, "y"), "x y"},
		{file(id(3, 1), root, "x"), "x x~5.0 y"},
	})
}

// In each order of coming, what is seen behind each operation is that of those that came.
func TestEachOrder(t *testing.T) { // P18.1, What follows
	root := ops.Root()
	for i, os := range [][]api.Op{
		{dir(at(1), root, "x"), file(at(2), at(1), "f"), write(at(3), at(2), "one"), write(id(3, 1), at(2), "two"), move(at(4), at(1), ops.Trash(), "x")},
		{dir(at(1), root, "x"), dir(at(2), root, "x"), move(at(3), at(1), at(2), "x"), move(at(4), at(2), at(1), "x"), file(at(5), root, "x")},
		{file(at(1), root, "x"), write(at(2), at(1), "one"), write(at(3), at(1), "two", 1), write(id(3, 1), at(1), "three", 1), write(at(5), at(1), "all", 2, 1)},
	} {
		what := fmt.Sprint("set ", i)
		want := shape(newPair(t, what).apply(os...).view, root)
		for _, order := range orders(os) {
			p := newPair(t, what)
			for _, o := range order {
				p.apply(o).want()
			}
			wantShape(t, what, p.view, want)
		}
	}
}

// again has operations of each kind with the stamp, such as may be.
func again(stamp api.ID) []api.Op {
	os := []api.Op{dir(stamp, ops.Root(), "again"), file(stamp, ops.Root(), "again")}
	if first := at(1); stamp != first {
		os = append(os, file(stamp, first, "again"), move(stamp, first, ops.Trash(), "again"), move(stamp, first, ops.Root(), "again"), write(stamp, first, "again"))
	}
	if plainLess(f, stamp) {
		os = append(os, move(stamp, f, ops.Trash(), "again"), write(stamp, f, "again"), write(stamp, f, ""), write(stamp, f, "again", append(make([]int64, stamp.Node), 9, 9)...))
	}
	return os
}

func TestStampsThatWereApplied(t *testing.T) { // P18.1, P0.2
	others := []api.Op{move(at(10), f, d, "x"), move(at(11), a, b, "passed over"), write(at(12), f, "more", 1), write(at(13), at(9), "nothing"), dir(at(14), f, "not made"), write(id(14, 1), b, "to a directory")}
	for _, os := range some(append(base(), others...)) {
		p := newPair(t, "a view").apply(os...).want()
		for _, o := range os {
			for _, k := range append(again(o.Stamp), o) {
				if e := p.view.Apply(k); e != api.EEXIST {
					t.Fatalf("Apply(%v) = %d", k, e)
				}
				p.want()
			}
		}
		if n := p.view.Len(); n != len(os) {
			t.Errorf("Len = %d, want %d", n, len(os))
		}
		p.apply(write(id(9, 1), f, "late")).want()
	}
}

// What a refused operation says of another object is not to be seen there, either.
func TestRefusedWritesLeaveNoTrace(t *testing.T) { // P18.1, P0.2
	p := newPair(t, "a view").apply(base()...).apply(file(at(7), d, "g"))
	if e := p.view.Apply(write(at(6), at(5), "x")); e != api.EEXIST {
		t.Errorf("Apply = %d", e)
	}
	for _, o := range []api.Op{write(at(6), f, "x"), write(at(7), f, "x"), write(at(5), f, "x")} {
		if e := p.view.Apply(o); e != api.EEXIST {
			t.Errorf("Apply(%v) = %d", o, e)
		}
	}
	wantShape(t, "a view", p.want().view, "a(b(c()) f=text) d(g)")
	if n := p.view.Len(); n != 7 {
		t.Errorf("Len = %d", n)
	}
}

func TestMayNotBeAheadOfThere(t *testing.T) { // P18.1, P0.2
	p := newPair(t, "a view").apply(base()...)
	for _, o := range base() {
		o.Name = "no/name"
		if e := p.view.Apply(o); e != api.EINVAL {
			t.Errorf("Apply(%v) = %d", o, e)
		}
	}
	wantShape(t, "a view", p.want().view, plainShape)
}

func TestLen(t *testing.T) { // P18.1
	v := New()
	for i, x := range []struct {
		o    api.Op
		want int
	}{
		{dir(at(20), ops.Root(), "x"), 1},
		{write(at(30), at(9), "to nothing"), 2},
		{move(at(40), at(9), at(9), "what does nothing"), 3},
		{dir(at(20), ops.Root(), "x"), 3},
		{api.Op{}, 3},
		{write(at(30), at(20), "again"), 3},
		{file(at(10), ops.Root(), "ahead of all"), 4},
		{move(at(50), at(20), ops.Trash(), "x"), 5},
		{move(at(60), at(10), ops.Trash(), strings.Repeat("n", 65)), 5},
		{write(at(35), at(10), strings.Repeat("n", 65536)), 6},
		{write(at(36), at(10), strings.Repeat("n", 65537)), 6},
	} {
		v.Apply(x.o)
		if n := v.Len(); n != x.want {
			t.Errorf("behind %d: Len = %d, want %d", i, n, x.want)
		}
	}
}
