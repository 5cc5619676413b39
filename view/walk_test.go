package view

import (
	"slices"
	"strings"
	"testing"

	"lagoon/api"
	"lagoon/ops"
)

// walked is a path and what Walk answers.
type walked struct {
	p  []string
	to api.ID
	e  api.Errno
}

func wantWalked(t *testing.T, v *View, all []walked) {
	t.Helper()
	for _, x := range all {
		if to, e := v.Walk(x.p); to != x.to || e != x.e {
			t.Errorf("Walk(%.200q) = %v, %d, want %v, %d", x.p, to, e, x.to, x.e)
		}
	}
}

func path(names ...string) []string { return names }

func TestWalk(t *testing.T) { // P18.2
	none := api.ID{}
	wantWalked(t, newPair(t, "base").apply(base()...).view, []walked{
		{nil, ops.Root(), api.OK},
		{path(), ops.Root(), api.OK},
		{path("a"), a, api.OK},
		{path("d"), d, api.OK},
		{path("a", "b"), b, api.OK},
		{path("a", "f"), f, api.OK},
		{path("a", "b", "c"), c, api.OK},
		{path("b"), none, api.ENOENT},
		{path("x"), none, api.ENOENT},
		{path("A"), none, api.ENOENT},
		{path("a "), none, api.ENOENT},
		{path("a", "c"), none, api.ENOENT},
		{path("a", "b", "c", "d"), none, api.ENOENT},
		{path("a", "a"), none, api.ENOENT},
		{path("a/b"), none, api.ENOENT},
		{path("/"), none, api.ENOENT},
		{path("."), none, api.ENOENT},
		{path(".."), none, api.ENOENT},
		{path("a", ".."), none, api.ENOENT},
	})
}

func TestWalkThroughAFile(t *testing.T) { // P18.2
	none := api.ID{}
	wantWalked(t, newPair(t, "base").apply(base()...).view, []walked{
		{path("a", "f", "x"), none, api.ENOTDIR},
		{path("a", "f", "f"), none, api.ENOTDIR},
		{path("a", "f", ""), none, api.ENOTDIR},
		{path("a", "f", "x", "y"), none, api.ENOTDIR},
		{path("a", "f", "\x015.0"), none, api.ENOTDIR},
		// What comes first on the way is told.
		{path("a", "x", "f"), none, api.ENOENT},
		{path("x", "f", "y"), none, api.ENOENT},
	})
}

func TestWalkOfTheEmptyName(t *testing.T) { // P18.2
	none := api.ID{}
	for _, v := range []*View{New(), newPair(t, "base").apply(base()...).view} {
		wantWalked(t, v, []walked{
			{path(""), none, api.ENOENT},
			{path("", "a"), none, api.ENOENT},
			{path("", ""), none, api.ENOENT},
		})
	}
	wantWalked(t, newPair(t, "base").apply(base()...).view, []walked{
		{path("a", ""), none, api.ENOENT},
		{path("a", "", "b"), none, api.ENOENT},
		{path("d", ""), none, api.ENOENT},
	})
}

// crowded has in the root: x (5.0), x (7.2), x (7.3), y (6.1); below x (7.2) a file z; x (8.0) is a file.
func crowded() []api.Op {
	root := ops.Root()
	return []api.Op{dir(id(7, 2), root, "x"), dir(at(5), root, "x"), file(id(6, 1), root, "y"), dir(id(7, 3), root, "x"), file(at(9), id(7, 2), "z"), file(at(8), root, "x")}
}

func TestWalkOfShownNames(t *testing.T) { // P18.2
	none := api.ID{}
	for _, os := range some(crowded()) {
		p := newPair(t, "crowded").apply(os...).want()
		wantWalked(t, p.view, []walked{
			{path("x"), at(5), api.OK},
			{path("x\x017.2"), id(7, 2), api.OK},
			{path("x\x017.3"), id(7, 3), api.OK},
			{path("x\x018.0"), at(8), api.OK},
			{path("x\x017.2", "z"), at(9), api.OK},
			{path("y"), id(6, 1), api.OK},
			// Another one is shown by its own name.
			{path("x", "z"), none, api.ENOENT},
			{path("x\x018.0", "z"), none, api.ENOTDIR},
			// It is shown, but by its own name.
			{path("x\x015.0"), none, api.ENOENT},
			{path("y\x016.1"), none, api.ENOENT},
			{path("x\x017.2", "z\x019.0"), none, api.ENOENT},
			// There is such an object, but with another name, or elsewhere.
			{path("y\x017.2"), none, api.ENOENT},
			{path("z"), none, api.ENOENT},
			{path("z\x019.0"), none, api.ENOENT},
			{path("x\x019.0"), none, api.ENOENT},
			{path("x\x017.2", "x\x017.2"), none, api.ENOENT},
			// No suffix of an object.
			{path("x\x017.4"), none, api.ENOENT},
			{path("x\x017"), none, api.ENOENT},
			{path("x\x01"), none, api.ENOENT},
			{path("\x017.2"), none, api.ENOENT},
			{path("x\x0107.2"), none, api.ENOENT},
			{path("x\x017.02"), none, api.ENOENT},
			{path("x\x01+7.2"), none, api.ENOENT},
			{path("x\x017.2 "), none, api.ENOENT},
			{path("x\x017.2\x017.2"), none, api.ENOENT},
		})
	}
}

// The name of one that is gone is shown by the next one.
func TestWalkOfNamesThatAreFreeAgain(t *testing.T) { // P18.2
	none := api.ID{}
	p := newPair(t, "crowded").apply(crowded()...).apply(move(at(20), at(5), ops.Trash(), "x"))
	wantWalked(t, p.want().view, []walked{
		{path("x"), id(7, 2), api.OK},
		{path("x", "z"), at(9), api.OK},
		{path("x\x017.2"), none, api.ENOENT},
		{path("x\x017.3"), id(7, 3), api.OK},
		{path("x\x015.0"), none, api.ENOENT},
	})
	p.apply(move(at(21), at(5), ops.Root(), "y"))
	wantWalked(t, p.want().view, []walked{
		{path("x"), id(7, 2), api.OK},
		{path("y"), at(5), api.OK},
		{path("y\x016.1"), id(6, 1), api.OK},
	})
}

// deep has a directory in each directory, and a file at the end.
func deep(count int) ([]api.Op, []string) {
	var os []api.Op
	var names []string
	parent := ops.Root()
	for i := range count {
		stamp := at(int64(i + 1))
		os = append(os, dir(stamp, parent, "d"))
		names, parent = append(names, "d"), stamp
	}
	last := at(int64(count + 1))
	return append(os, file(last, parent, "f")), append(names, "f")
}

func TestWalkOfALongPath(t *testing.T) { // P18.2, P18.3, P0.1
	const count = 3000
	os, names := deep(count)
	v := New()
	for _, o := range os {
		v.Apply(o)
	}
	last := at(count + 1)
	for i := 0; i <= count; i += 100 {
		if to, e := v.Walk(names[:i]); to != (at(int64(i))) || e != api.OK {
			t.Fatalf("Walk of %d names = %v, %d", i, to, e)
		}
	}
	wantWalked(t, v, []walked{
		{names, last, api.OK},
		{append(slices.Clone(names), "x"), api.ID{}, api.ENOTDIR},
		{append(slices.Clone(names[:count]), "d"), api.ID{}, api.ENOENT},
		{slices.Repeat(path("d"), 100000), api.ID{}, api.ENOENT},
	})
	if p, ok := v.Path(last); !ok || !slices.Equal(p, names) {
		t.Errorf("Path has %d names, %v", len(p), ok)
	}
}

func TestWalkOfOddNames(t *testing.T) { // P18.2, P0.1
	v := newPair(t, "base").apply(base()...).view
	for _, name := range []string{"\x00", "\x01", "\x011.0", "a\x00", "a\x011.0", "\xff\xfe", strings.Repeat("a", 65), strings.Repeat("a", 1<<20), strings.Repeat("\x01", 1<<16), "a\x01" + strings.Repeat("9", 1<<16) + ".0"} {
		wantWalked(t, v, []walked{{path(name), api.ID{}, api.ENOENT}, {path("a", name), api.ID{}, api.ENOENT}, {path(name, "a"), api.ID{}, api.ENOENT}})
	}
}
