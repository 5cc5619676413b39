package vfs

import (
	"slices"
	"strings"
	"testing"

	"lagoon/api"
	"lagoon/ops"
)

func TestMkdir(t *testing.T) { // P21.2
	p := clashPair(t, "a machine")
	p.want(
		told{call: mkdir("/a"), made: "dir 9.2 in 0.0 as a"},
		told{call: mkdir("/a/b"), made: "dir 10.2 in 9.2 as b"},
		told{call: mkdir("/d/e/x"), made: "dir 11.2 in 2.2 as x"},
		told{call: mkdir(d3 + "/y"), made: "dir 12.2 in 6.3 as y"},
		told{call: mkdir("/" + name65[:64]), made: "dir 13.2 in 0.0 as " + name65[:64]},
	).wantShape("a(b()) d(e(x()) f=text=other) d~6.3(x y()) g g~6.1 " + name65[:64] + "()").look()
	p.refuse(api.EEXIST, mkdir("/"), mkdir("/d"), mkdir("/d/e"), mkdir("/d/f"), mkdir("/g"), mkdir(g1), mkdir(d3), mkdir(d3+"/x"), mkdir("/a"))
	p.refuse(api.EINVAL, mkdir("/g\x019.1"), mkdir("/a\x019.2"), mkdir("/new\x016.1")).look()
}

func TestRmdir(t *testing.T) { // P21.2
	p := clashPair(t, "a machine")
	p.refuse(api.EBUSY, rmdir("/"))
	p.refuse(api.ENOENT, rmdir("/x"), rmdir("/d/x"), rmdir("/g\x019.1"))
	p.refuse(api.ENOTDIR, rmdir("/g"), rmdir(g1), rmdir("/d/f"), rmdir(d3+"/x"))
	p.refuse(api.ENOTEMPTY, rmdir("/d"), rmdir(d3))
	p.want(
		told{call: rmdir("/d/e"), made: "move 2.2 in 0.1 as e"},
		told{call: unlink(d3 + "/x"), made: "move 8.3 in 0.1 as x"},
		told{call: rmdir(d3), made: "move 6.3 in 0.1 as d"}, // its own name
	).refuse(api.ENOENT, rmdir(d3), rmdir("/d/e")).refuse(api.ENOTEMPTY, rmdir("/d"))
	p.pass(unlink("/d/f"), rmdir("/d")).wantShape("g g~6.1").look()
	// The name is free again, and the directory that others put something into is there for them.
	p.pass(mkdir("/d"), rmdir("/d"), mkdir("/d")).load(makes(api.KFile, id(90, 1), d, "late", 0, 2)).wantShape("d() g g~6.1").look()
}

func TestUnlink(t *testing.T) { // P21.2
	p := clashPair(t, "a machine")
	p.refuse(api.EISDIR, unlink("/"), unlink("/d"), unlink("/d/e"), unlink(d3))
	p.refuse(api.ENOENT, unlink("/x"), unlink("/d/x"), unlink("/g\x019.1"), unlink("/g\x015.2"))
	p.want(
		told{call: unlink(g1), made: "move 6.1 in 0.1 as g"}, // its own name
		told{call: unlink("/g"), made: "move 5.2 in 0.1 as g"},
		told{call: unlink("/d/f"), made: "move 3.2 in 0.1 as f"},
	).refuse(api.ENOENT, unlink("/g"), unlink(g1), unlink("/d/f"))
	p.wantShape("d(e()) d~6.3(x)").want(told{call: open("/g", create), made: "file 12.2 in 0.0 as g"}).look()
	// What keeps the name goes, and what was shown apart has it.
	p = clashPair(t, "the first one goes").want(told{call: unlink("/g"), made: "move 5.2 in 0.1 as g"}).wantShape("d(e() f=text=other) d~6.3(x) g")
	p.want(told{call: unlink("/g"), made: "move 6.1 in 0.1 as g"}).refuse(api.ENOENT, unlink("/g"), unlink(g1)).look()
}

func TestRename(t *testing.T) { // P21.2
	p := clashPair(t, "a machine")
	p.want(
		told{call: rename("/d/f", "/d/h"), made: "move 3.2 in 1.2 as h"},   // in the same parent
		told{call: rename("/d/h", "/d/e/h"), made: "move 3.2 in 2.2 as h"}, // to another one
		told{call: rename("/d/e", "/e"), made: "move 2.2 in 0.0 as e"},     // a directory with kids
		told{call: rename("/e", d3+"/e"), made: "move 2.2 in 6.3 as e"},    // into what is shown apart
		told{call: rename(g1, "/gg"), made: "move 6.1 in 0.0 as gg"},       // what is shown apart
		told{call: rename(d3, "/d/d"), made: "move 6.3 in 1.2 as d"},       // to its own name
		told{call: rename("/d/d/e/h", "/h"), made: "move 3.2 in 0.0 as h"}, // to the root
		told{call: rename("/d", "/"+name65[:64]), made: "move 1.2 in 0.0 as " + name65[:64]},
	)
	p.wantShape("g gg h=text=other " + name65[:64] + "(d(e() x))").look()
}

func TestRenameOntoItself(t *testing.T) { // P21.2
	p := clashPair(t, "a machine")
	for _, s := range []string{"/d", "/d/e", "/d/f", "/g", g1, d3, d3 + "/x"} {
		p.refuse(api.OK, rename(s, s))
	}
	no := func(os ...api.Op) bool { t.Errorf("fits is asked of %v", os); return false }
	if r, _ := p.doIf(rename("/d", "/d"), no); r.Err != api.OK {
		t.Errorf("%d", r.Err)
	}
	p.wantShape(clashShape).look()
}

func TestRenameBelowItself(t *testing.T) { // P21.2, P0.2
	p := clashPair(t, "a machine").pass(mkdir("/d/e/i"), mkdir("/d/e/i/j"), open("/d/e/i/k", create))
	p.refuse(api.EINVAL,
		rename("/d", "/d/x"), rename("/d", "/d/e"), rename("/d", "/d/f"), rename("/d", "/d/e/x"), rename("/d", "/d/e/i"), rename("/d", "/d/e/i/j"), rename("/d", "/d/e/i/k"), rename("/d", "/d/e/i/j/x"),
		rename("/d/e", "/d/e/x"), rename("/d/e", "/d/e/i"), rename("/d/e", "/d/e/i/j/x"), rename(d3, d3+"/x"), rename(d3, d3+"/y"),
		rename("/d", "/d/g\x019.1"), // no fresh name, either
	)
	// What is above it, or beside it, is not below it.
	p.refuse(api.ENOTEMPTY, rename("/d/e", "/d"), rename("/d/e/i/j", "/d"), rename("/d/e/i", "/d/e"))
	p.pass(rename("/d/e/i", "/d/i"), rename("/d/i", d3+"/i"), rename(d3, "/d/e/dd")).look()
	p.refuse(api.EINVAL, rename("/d", "/d/e/dd/i/j/x"))
	p.wantShape("d(e(dd(i(j() k) x)) f=text=other) g g~6.1")
}

func TestRenameToWhatIsThere(t *testing.T) { // P21.2
	for _, x := range []struct {
		path, to, made, shape string
	}{
		{"/d/f", "/g", "move 5.2 in 0.1 as g, move 3.2 in 0.0 as g", "d(e()) d~6.3(x) g=text=other g~6.1"},
		{"/g", "/d/f", "move 3.2 in 0.1 as f, move 5.2 in 1.2 as f", "d(e() f) d~6.3(x) g"},
		{"/g", g1, "move 6.1 in 0.1 as g, move 5.2 in 0.0 as g", "d(e() f=text=other) d~6.3(x) g"},
		{g1, "/g", "move 5.2 in 0.1 as g, move 6.1 in 0.0 as g", "d(e() f=text=other) d~6.3(x) g"},
		{"/d/f", g1, "move 6.1 in 0.1 as g, move 3.2 in 0.0 as g", "d(e()) d~6.3(x) g=text=other g~5.2"},
		{g1, d3 + "/x", "move 8.3 in 0.1 as x, move 6.1 in 6.3 as x", "d(e() f=text=other) d~6.3(x) g"},
		{d3, "/d/e", "move 2.2 in 0.1 as e, move 6.3 in 1.2 as e", "d(e(x) f=text=other) g g~6.1"},
	} {
		p := clashPair(t, x.path+" to "+x.to)
		p.want(told{call: rename(x.path, x.to), made: x.made}).wantShape(x.shape).look()
	}
	p := clashPair(t, "an empty directory by one with kids").pass(unlink(d3 + "/x")).want(told{call: rename("/d", d3), made: "move 6.3 in 0.1 as d, move 1.2 in 0.0 as d"})
	p.wantShape("d(e() f=text=other) g g~6.1").look()
}

func TestRenameOfWrongKinds(t *testing.T) { // P21.2, P0.2
	p := clashPair(t, "a machine")
	p.refuse(api.EBUSY, rename("/", "/"), rename("/", "/x"), rename("/", "/d/x"), rename("/d", "/"), rename("/g", "/"), rename("/d/e", "/"))
	p.refuse(api.ENOENT, rename("/x", "/y"), rename("/x", "/x"), rename("/x", "/"), rename("/g\x019.1", "/y"), rename("/d/x", "/d"))
	p.refuse(api.EISDIR, rename("/g", "/d"), rename("/g", "/d/e"), rename(g1, d3), rename("/d/f", "/d"), rename("/d/f", "/d/e"))
	p.refuse(api.ENOTDIR, rename("/d", "/g"), rename("/d/e", "/g"), rename(d3, g1), rename("/d/e", "/d/f"))
	p.refuse(api.ENOTEMPTY, rename("/d", d3), rename(d3, "/d"), rename("/d/e", "/d"), rename("/d/e", d3))
	p.refuse(api.EINVAL, rename("/g", "/g\x019.1"), rename("/d", "/x\x011.2"), rename("/d", "/d/f"))
	p.wantShape(clashShape).look()
}

// Of two paths that can't be, the first one's error is told.
func TestRenameTellsPathFirst(t *testing.T) { // P21.2, P0.2
	p := clashPair(t, "a machine")
	for e, paths := range noPaths() {
		for other, others := range noPaths() {
			for _, c := range []api.Call{rename(paths[0], others[0]), rename(paths[0], "/"), rename(paths[0], "/d")} {
				p.refuse(e, c)
			}
			p.refuse(api.EBUSY, rename("/", others[0]))
			p.refuse(api.ENOENT, rename("/x", others[0]))
			p.refuse(other, rename("/d", others[0]), rename("/g", others[0]))
		}
	}
	// Of a directory to a place below a file in it, and to one below what is not in it.
	p.refuse(api.ENOTDIR, rename("/d", "/d/f/x"))
	p.refuse(api.ENOENT, rename("/d", "/d/x/y"))
	p.look()
}

// What is in the trash fills no directory and takes no name.
func TestTheTrashIsNotSeen(t *testing.T) { // P21.2
	p := clashPair(t, "a machine").pass(unlink("/d/f"), unlink("/g"), rmdir("/d/e"), rmdir("/d"))
	p.want(told{call: mkdir("/d/f"), made: "dir 13.2 in 6.3 as f"}) // what was shown apart is /d now
	p.wantShape("d(f() x) g").look()
}

func TestReaddir(t *testing.T) { // P21.2
	p := clashPair(t, "a machine")
	for _, x := range []struct {
		path string
		want []api.Entry
	}{
		{"/", []api.Entry{{Name: "d", Obj: d, Dir: true}, {Name: "d\x016.3", Obj: id(6, 3), Dir: true}, {Name: "g", Obj: g}, {Name: "g\x016.1", Obj: id(6, 1)}}},
		{"/d", []api.Entry{{Name: "e", Obj: e, Dir: true}, {Name: "f", Obj: f, Size: 5}}},
		{"/d/e", nil},
		{d3, []api.Entry{{Name: "x", Obj: id(8, 3)}}},
	} {
		r, _ := p.do(readdir(x.path))
		if !slices.Equal(r.List, x.want) || r.Err != api.OK {
			t.Errorf("%q: %v", x.path, r)
		}
	}
	p.refuse(api.ENOENT, readdir("/x"), readdir("/d/x"))
	p.refuse(api.ENOTDIR, readdir("/g"), readdir("/d/f"), readdir(g1))
}

func TestStat(t *testing.T) { // P21.2
	p := clashPair(t, "a machine")
	for _, x := range []struct {
		path string
		want api.Stat
	}{
		{"/", api.Stat{Obj: ops.Root(), Dir: true}},
		{"/d", api.Stat{Obj: d, Dir: true}},
		{d3, api.Stat{Obj: id(6, 3), Dir: true}},
		{"/d/e", api.Stat{Obj: e, Dir: true}},
		{"/d/f", api.Stat{Obj: f, Size: 5, Heads: 2}},
		{"/g", api.Stat{Obj: g}},
		{g1, api.Stat{Obj: id(6, 1)}},
	} {
		r, _ := p.do(stat(x.path))
		if r.Stat != x.want || r.Err != api.OK {
			t.Errorf("%q: %v", x.path, r)
		}
	}
	p.refuse(api.ENOENT, stat("/x"), stat("/d/x"), stat(d3+"/y"))
	p.pass(open("/g", writes), write(0, strings.Repeat("x", 300)))
	if r, _ := p.do(stat("/g")); r.Stat != (api.Stat{Obj: g, Size: 300, Heads: 1}) {
		t.Errorf("%v", r)
	}
}
