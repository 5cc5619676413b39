package view

import (
	"fmt"
	"slices"
	"strings"
	"testing"

	"lagoon/api"
	"lagoon/ops"
)

// told is what is told of an object: how Stat ends, how Read and Heads end, and what they say.
type told struct {
	what  string
	id    api.ID
	stat  api.Stat
	e     api.Errno // of Stat
	why   api.Errno // of Read and Heads
	value string
	heads []api.ID
}

func wantTold(t *testing.T, v *View, all []told) {
	t.Helper()
	for _, x := range all {
		if s, e := v.Stat(x.id); s != x.stat || e != x.e {
			t.Errorf("%s: Stat = %v, %d, want %v, %d", x.what, s, e, x.stat, x.e)
		}
		if b, e := v.Read(x.id); string(b) != x.value || e != x.why {
			t.Errorf("%s: Read = %.99q, %d, want %.99q, %d", x.what, b, e, x.value, x.why)
		}
		vs, e := v.Heads(x.id)
		var heads []api.ID
		for _, h := range vs {
			heads = append(heads, h.Stamp)
		}
		if !slices.Equal(heads, x.heads) || e != x.why {
			t.Errorf("%s: Heads = %v, %d, want %v, %d", x.what, heads, e, x.heads, x.why)
		}
	}
}

func isFile(what string, id api.ID, value string, heads ...api.ID) told {
	return told{what: what, id: id, stat: api.Stat{Obj: id, Size: len(value), Heads: len(heads)}, value: value, heads: heads}
}

func isDir(what string, id api.ID) told {
	return told{what: what, id: id, stat: api.Stat{Obj: id, Dir: true}, why: api.EISDIR}
}

func isGone(what string, id api.ID) told {
	return told{what: what, id: id, e: api.ENOENT, why: api.ENOENT}
}

// library has files of all sorts, live ones and others.
func library() []api.Op {
	root, trash := ops.Root(), ops.Trash()
	return []api.Op{
		dir(at(1), root, "dir"), file(at(2), root, "none"), file(at(3), root, "one"), file(at(4), at(1), "heads"), file(at(5), root, "later"), file(at(6), root, "mixed"),
		write(at(20), at(3), "one"),
		write(id(21, 2), at(4), "b"), write(id(20, 3), at(4), "aaaa"), write(id(21, 1), at(4), "cc"), write(id(22, 0), at(4), "", 0, 1),
		write(id(23, 1), at(5), "first"), write(id(24, 1), at(5), "second", 0, 1), write(id(22, 2), at(5), "third", 0, 2),
		write(id(25, 0), at(6), "old", 1), write(id(26, 1), at(6), "apart"), write(id(27, 2), at(6), "new", 2),
		dir(at(7), root, "gone"), file(at(8), at(7), "x"), write(at(28), at(8), "in the trash"), move(at(29), at(7), trash, "gone"),
		file(at(9), root, "y"), write(at(30), at(9), "itself in the trash"), move(at(31), at(9), trash, "y"),
		write(at(32), at(1), "to a directory"), write(at(33), at(15), "to nothing"),
	}
}

func TestStatReadAndHeads(t *testing.T) { // P18.3
	for _, os := range some(library()) {
		p := newPair(t, "library").apply(os...).want()
		wantTold(t, p.view, []told{
			isDir("root", ops.Root()),
			isDir("a directory that was written to", at(1)),
			isFile("no version", at(2), ""),
			isFile("one head", at(3), "one", at(20)),
			isFile("many heads", at(4), "", id(20, 3), id(21, 2), id(22, 0)),
			isFile("one that has seen all", at(5), "third", id(22, 2)),
			isFile("some that were seen", at(6), "new", id(26, 1), id(27, 2)),
			isGone("trash", ops.Trash()),
			isGone("a directory in the trash", at(7)),
			isGone("a file below the trash", at(8)),
			isGone("a file in the trash", at(9)),
			isGone("what was written to, but never made", at(15)),
			isGone("the stamp of a write", at(20)),
			isGone("the stamp of a move", at(29)),
			isGone("nothing", at(99)),
			isGone("no stamp", id(0, 2)),
			isGone("no stamp, below", id(-1, 0)),
			isGone("no node", id(1, 64)),
		})
		p.apply(move(at(40), at(7), ops.Root(), "back"), file(at(15), ops.Root(), "late"), move(at(41), at(3), ops.Trash(), "one"))
		wantTold(t, p.want().view, []told{
			isDir("out of the trash", at(7)),
			isFile("below that", at(8), "in the trash", at(28)),
			isFile("made behind its version", at(15), "to nothing", at(33)),
			isGone("now in the trash", at(3)),
		})
	}
}

// What Heads tells is what was written, all of it.
func TestHeadsInFull(t *testing.T) { // P18.3
	full := strings.Repeat("x", 65536)
	v := newPair(t, "a view").apply(file(a, ops.Root(), "f"), write(id(12, 1), a, full, 7, 3, 0, 4), write(id(11, 2), a, "", 7)).view
	want := []api.Version{{Stamp: id(11, 2), Seq: 1, Seen: api.Vector{7}}, {Stamp: id(12, 1), Seq: 4, Seen: api.Vector{7, 3, 0, 4}, Data: []byte(full)}}
	if heads, e := v.Heads(a); e != api.OK || !slices.EqualFunc(heads, want, sameVersion) {
		t.Errorf("Heads = %.200v, %d", fmt.Sprint(heads), e)
	}
	if b, e := v.Read(a); string(b) != full || e != api.OK {
		t.Errorf("Read gives %d bytes, %d", len(b), e)
	}
	if s, e := v.Stat(a); s != (api.Stat{Obj: a, Size: 65536, Heads: 2}) || e != api.OK {
		t.Errorf("Stat = %v, %d", s, e)
	}
}

// Versions that have seen each other leave a file without a head.
func TestVersionsThatHaveSeenEachOther(t *testing.T) { // P18.3
	p := newPair(t, "a view").apply(file(a, ops.Root(), "f"), write(id(12, 1), a, "one", 0, 0, 1), write(id(12, 2), a, "two", 0, 1)).want()
	wantTold(t, p.view, []told{isFile("no head", a, "")})
	wantList(t, p.view, ops.Root(), api.OK, api.Entry{Name: "f", Obj: a})
}

// A write is of one file, though another one's version has seen it.
func TestFilesAreApart(t *testing.T) { // P18.1, P18.3
	p := newPair(t, "a view").apply(file(a, ops.Root(), "f"), file(b, ops.Root(), "g"), write(id(12, 1), a, "one"), write(id(13, 1), b, "two", 0, 1))
	wantTold(t, p.want().view, []told{isFile("f", a, "one", id(12, 1)), isFile("g", b, "two", id(13, 1))})
}
