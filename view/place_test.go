package view

import (
	"slices"
	"testing"

	"lagoon/api"
	"lagoon/ops"
)

// placed is what is told of where an object stands.
type placed struct {
	what    string
	id      api.ID
	path    []string
	live    bool
	parent  api.ID
	name    string
	isThere bool
}

func wantPlaced(t *testing.T, v *View, all []placed) {
	t.Helper()
	for _, x := range all {
		if p, ok := v.Path(x.id); !slices.Equal(p, x.path) || ok != x.live {
			t.Errorf("%s: Path = %q, %v, want %q, %v", x.what, p, ok, x.path, x.live)
		}
		if live := v.Live(x.id); live != x.live {
			t.Errorf("%s: Live = %v", x.what, live)
		}
		if parent, name, ok := v.Where(x.id); parent != x.parent || name != x.name || ok != x.isThere {
			t.Errorf("%s: Where = %v, %q, %v, want %v, %q, %v", x.what, parent, name, ok, x.parent, x.name, x.isThere)
		}
		if below := v.Below(x.id, ops.Root()); below != (x.live && x.isThere) {
			t.Errorf("%s: Below root: %v", x.what, below)
		}
		if below := v.Below(x.id, ops.Trash()); below != (x.isThere && !x.live) {
			t.Errorf("%s: Below trash: %v", x.what, below)
		}
	}
}

func TestPlaces(t *testing.T) { // P18.3
	root, trash := ops.Root(), ops.Trash()
	for _, os := range some(append(base(), file(at(10), c, "deep"), dir(at(11), root, "t"), file(at(12), at(11), "u"), move(at(13), at(11), trash, "t2"), file(at(14), at(99), "passed over"))) {
		wantPlaced(t, newPair(t, "places").apply(os...).want().view, []placed{
			{what: "root", id: root, live: true},
			{what: "a directory", id: a, path: path("a"), live: true, name: "a", isThere: true},
			{what: "a file", id: f, path: path("a", "f"), live: true, parent: a, name: "f", isThere: true},
			{what: "a file deep down", id: at(10), path: path("a", "b", "c", "deep"), live: true, parent: c, name: "deep", isThere: true},
			{what: "trash", id: trash},
			{what: "in the trash", id: at(11), parent: trash, name: "t2", isThere: true},
			{what: "below the trash", id: at(12), parent: at(11), name: "u", isThere: true},
			{what: "the stamp of a write", id: at(6)},
			{what: "the stamp of a move", id: at(13)},
			{what: "what was not made", id: at(14)},
			{what: "what it was to be made in", id: at(99)},
			{what: "no stamp", id: id(0, 2)},
			{what: "no stamp, below", id: id(-5, 0)},
		})
	}
}

// Path tells what is shown, Where the own name.
func TestPlacesOfNamesThatClash(t *testing.T) { // P18.3
	root, trash := ops.Root(), ops.Trash()
	more := []api.Op{file(at(10), id(7, 2), "z"), dir(at(11), id(7, 2), "z"), dir(at(12), id(7, 3), "x"), file(at(13), at(11), "x"), file(at(14), trash, "x"), dir(at(15), root, "x"), move(at(16), at(15), trash, "x")}
	more = slices.DeleteFunc(more, func(o api.Op) bool { return !ops.May(o) })
	for _, os := range some(append(crowded(), more...)) {
		wantPlaced(t, newPair(t, "clash").apply(os...).want().view, []placed{
			{what: "the first one", id: at(5), path: path("x"), live: true, name: "x", isThere: true},
			{what: "the second one", id: id(7, 2), path: path("x\x017.2"), live: true, name: "x", isThere: true},
			{what: "the third one", id: id(7, 3), path: path("x\x017.3"), live: true, name: "x", isThere: true},
			{what: "another name", id: id(6, 1), path: path("y"), live: true, name: "y", isThere: true},
			{what: "below one, the first", id: at(9), path: path("x\x017.2", "z"), live: true, parent: id(7, 2), name: "z", isThere: true},
			{what: "below one, the second", id: at(10), path: path("x\x017.2", "z\x0110.0"), live: true, parent: id(7, 2), name: "z", isThere: true},
			{what: "below one, the third", id: at(11), path: path("x\x017.2", "z\x0111.0"), live: true, parent: id(7, 2), name: "z", isThere: true},
			{what: "below two", id: at(13), path: path("x\x017.2", "z\x0111.0", "x"), live: true, parent: at(11), name: "x", isThere: true},
			{what: "the same name, deeper", id: at(12), path: path("x\x017.3", "x"), live: true, parent: id(7, 3), name: "x", isThere: true},
			{what: "the same name, in the trash", id: at(15), parent: trash, name: "x", isThere: true},
		})
	}
}

func TestBelow(t *testing.T) { // P18.3
	root, trash := ops.Root(), ops.Trash()
	v := newPair(t, "base").apply(base()...).apply(dir(at(10), root, "t"), file(at(11), at(10), "u"), move(at(12), at(10), trash, "t")).want().view
	for _, x := range []struct {
		a, b api.ID
		want bool
	}{
		{a, root, true}, {b, a, true}, {c, a, true}, {c, b, true}, {f, a, true}, {c, root, true},
		{at(10), trash, true}, {at(11), at(10), true}, {at(11), trash, true},
		{root, root, false}, {root, a, false}, {a, a, false}, {a, b, false}, {f, b, false}, {d, a, false}, {c, f, false},
		{trash, root, false}, {root, trash, false}, {trash, trash, false}, {at(11), root, false}, {a, trash, false},
		{at(99), root, false}, {a, at(99), false}, {at(99), at(99), false}, {at(6), f, false}, {at(12), trash, false},
	} {
		if got := v.Below(x.a, x.b); got != x.want {
			t.Errorf("Below(%v, %v) = %v", x.a, x.b, got)
		}
	}
	for id, want := range map[api.ID]bool{root: true, a: true, c: true, f: true, trash: false, at(10): false, at(11): false, at(99): false, at(6): false} {
		if got := v.Live(id); got != want {
			t.Errorf("Live(%v) = %v", id, got)
		}
	}
}
