package view

import (
	"fmt"
	"slices"
	"sort"
	"strings"
	"testing"

	"lagoon/api"
	"lagoon/ops"
)

func wantList(t *testing.T, v *View, id api.ID, e api.Errno, want ...api.Entry) {
	t.Helper()
	if list, why := v.List(id); !slices.Equal(list, want) || why != e {
		t.Errorf("List(%v) = %q, %d, want %q, %d", id, fmt.Sprint(list), why, fmt.Sprint(want), e)
	}
}

func TestList(t *testing.T) { // P18.2
	trashed := []api.Op{dir(at(10), ops.Root(), "t"), file(at(11), at(10), "in t"), move(at(12), at(10), ops.Trash(), "t"), file(at(13), ops.Root(), "u"), move(at(14), at(13), ops.Trash(), "u")}
	v := newPair(t, "a view").apply(base()...).apply(trashed...).want().view
	wantList(t, v, ops.Root(), api.OK, api.Entry{Name: "a", Obj: a, Dir: true}, api.Entry{Name: "d", Obj: d, Dir: true})
	wantList(t, v, a, api.OK, api.Entry{Name: "b", Obj: b, Dir: true}, api.Entry{Name: "f", Obj: f, Size: 4})
	wantList(t, v, b, api.OK, api.Entry{Name: "c", Obj: c, Dir: true})
	for _, empty := range []api.ID{c, d} {
		wantList(t, v, empty, api.OK)
	}
	wantList(t, v, f, api.ENOTDIR)
	for _, gone := range []api.ID{ops.Trash(), at(10), at(11), at(13), at(6), at(12), at(99), {Time: -1}, {Time: 1, Node: 64}} {
		wantList(t, v, gone, api.ENOENT)
	}
}

func TestListOfKidsOfOneName(t *testing.T) { // P18.2
	want := []api.Entry{
		{Name: "x", Obj: at(5), Dir: true},
		{Name: "x\x0110.0", Obj: at(10)},
		{Name: "x\x017.2", Obj: id(7, 2), Dir: true},
		{Name: "x\x017.3", Obj: id(7, 3), Dir: true},
		{Name: "x\x018.0", Obj: at(8)},
		{Name: "y", Obj: id(6, 1), Size: 3},
	}
	for _, os := range some(append(crowded(), file(at(10), ops.Root(), "x"), write(at(11), id(6, 1), "yes"))) {
		wantList(t, newPair(t, "crowded").apply(os...).want().view, ops.Root(), api.OK, want...)
	}
}

// The order is that of the bytes of what is shown, not of IDs, own names, runes or letters.
func TestListInTheOrderOfBytes(t *testing.T) { // P18.2
	names := []string{"b", "a", "B", "ab", "a", " ", "\x02", "a\x02", "\x7f", "\x80", "\xff", "é", "\U0001f600", "\uffff", "a.", "-", "10", "9", "a", strings.Repeat("a", 64), "...", "a "}
	var os []api.Op
	for i, name := range names {
		os = append(os, file(at(int64(i+1)), ops.Root(), name))
	}
	p := newPair(t, "names")
	for _, order := range some(os) {
		p = newPair(t, "names").apply(order...).want()
	}
	list, _ := p.view.List(ops.Root())
	if !sort.SliceIsSorted(list, func(i, j int) bool { return string([]byte(list[i].Name)) < string([]byte(list[j].Name)) }) {
		t.Errorf("List = %q", fmt.Sprint(list))
	}
	var shown []string
	for _, e := range list {
		shown = append(shown, e.Name)
	}
	want := path("\x02", " ", "-", "...", "10", "9", "B", "a", "a\x0119.0", "a\x015.0", "a\x02", "a ", "a.", strings.Repeat("a", 64), "ab", "b", "\x7f", "\x80", "é", "\uffff", "\U0001f600", "\xff")
	if !slices.Equal(shown, want) {
		t.Errorf("List shows %q, want %q", shown, want)
	}
}

func TestListOfSizes(t *testing.T) { // P18.2
	root := ops.Root()
	p := newPair(t, "sizes").apply(
		file(at(1), root, "none"),
		file(at(2), root, "one"), write(at(10), at(2), "12345"),
		file(at(3), root, "empty"), write(at(11), at(3), ""),
		file(at(4), root, "heads"), write(id(12, 1), at(4), "123456789"), write(id(12, 2), at(4), "12"), write(id(11, 3), at(4), "1234567"),
		file(at(5), root, "later"), write(id(13, 1), at(5), "123"), write(id(14, 2), at(5), "1", 0, 1),
		file(at(6), root, "full"), write(at(15), at(6), strings.Repeat("x", 65536)),
		dir(at(7), root, "dir"), write(at(16), at(7), "of no file"), file(at(17), at(7), "x"), write(at(18), at(17), "1234"),
	)
	wantList(t, p.want().view, root, api.OK,
		api.Entry{Name: "dir", Obj: at(7), Dir: true},
		api.Entry{Name: "empty", Obj: at(3)},
		api.Entry{Name: "full", Obj: at(6), Size: 65536},
		api.Entry{Name: "heads", Obj: at(4), Size: 2},
		api.Entry{Name: "later", Obj: at(5), Size: 1},
		api.Entry{Name: "none", Obj: at(1)},
		api.Entry{Name: "one", Obj: at(2), Size: 5},
	)
	wantList(t, p.view, at(7), api.OK, api.Entry{Name: "x", Obj: at(17), Size: 4})
}

// A directory of many kids, of one name and of many.
func TestWideDirectory(t *testing.T) { // P18.2, P18.3, P0.1
	const many = 2000
	var os []api.Op
	for i := range int64(many) {
		os = append(os, file(at(i+1), ops.Root(), fmt.Sprint(i%1000*(i/1000))))
	}
	n := noise(1)
	v := New()
	for _, o := range n.shuffled(os) {
		v.Apply(o)
	}
	list, e := v.List(ops.Root())
	if len(list) != many || e != api.OK || !sort.SliceIsSorted(list, func(i, j int) bool { return list[i].Name < list[j].Name }) {
		t.Fatalf("%d kids, %d", len(list), e)
	}
	for i, x := range list {
		if i%50 > 0 {
			continue
		}
		p, ok := v.Path(x.Obj)
		if to, e := v.Walk(p); !ok || !slices.Equal(p, path(x.Name)) || to != x.Obj || e != api.OK {
			t.Fatalf("Path(%v) = %q, %v, Walk = %v, %d", x.Obj, p, ok, to, e)
		}
	}
}
