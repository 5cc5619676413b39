package vfs

import (
	"fmt"
	"math"
	"testing"

	"lagoon/api"
	"lagoon/ops"
)

func TestOpenOfWhatIsThere(t *testing.T) { // P21.2
	p := basePair(t, "a machine")
	for fd, flags := range []int{0, create, excl, writes, writes | app, create | writes, excl | writes, create | writes | app} {
		p.want(told{call: open("/d/f", flags), n: fd}).wantRead(fd, 9, "text")
	}
	p.wantShape(baseShape).look()
}

func TestOpenMakesAFile(t *testing.T) { // P21.2
	p := basePair(t, "a machine")
	p.want(
		told{call: open("/a", create), made: "file 6.2 in 0.0 as a"},
		told{call: open("/d/e/b", create|excl), n: 1, made: "file 7.2 in 2.2 as b"},
		told{call: open("/c", create|excl|trunc|writes|app), n: 2, made: "file 8.2 in 0.0 as c"},
		told{call: open("/d/b", create|writes), n: 3, made: "file 9.2 in 1.2 as b"},
		told{call: open("/d/b", create|writes), n: 4},
		told{call: write(3, "new"), n: 3, made: `write 9.2 "new"`},
	).wantShape("a c d(b=new e(b) f=text) g").look()
}

func TestOpenOfWhatIsNotThere(t *testing.T) { // P21.2
	p := clashPair(t, "a machine")
	for _, flags := range []int{0, excl, writes, excl | writes, trunc | writes, app | writes, excl | trunc | writes | app} {
		p.refuse(api.ENOENT, open("/x", flags), open("/d/x", flags), open("/d/e/x", flags), open("/g\x019.1", flags), open("/d\x011.2", flags))
	}
	for _, flags := range []int{create, create | excl, create | writes} {
		p.refuse(api.EINVAL, open("/g\x019.1", flags), open("/d/f\x013.2", flags), open("/x\x016.1", flags))
	}
	p.wantShape(clashShape).look()
}

func TestFlags(t *testing.T) { // P21.2, P0.2
	wrong := []int{trunc, app, trunc | app, create | trunc, create | excl | app, excl | trunc, create | excl | trunc | app}
	for _, bit := range []int{32, 64, 1 << 20, 1 << 31, 1 << 32, 1 << 62, math.MinInt} {
		wrong = append(wrong, bit, bit|writes, bit|create, bit|31)
	}
	wrong = append(wrong, -1, -2, -31, -32, math.MaxInt)
	p := clashPair(t, "a machine")
	for _, flags := range wrong { // ahead of all other errors
		for _, path := range []string{"/d/f", "/x", "/g\x019.1", "/d", "/", "/no/x", "/g/x", "", "?", "//"} {
			p.refuse(api.EINVAL, open(path, flags))
		}
	}
	if n := p.look().fs.Open(); n != 0 {
		t.Errorf("Open = %d", n)
	}
	// Each of the flags that there are, against the words.
	for flags := -3; flags < 70; flags++ {
		for _, path := range []string{"/d/f", "/g", "/x", "/d", "/", "/g\x016.1", "/g\x019.1"} {
			p := clashPair(t, fmt.Sprint(path, " ", flags))
			p.do(open(path, flags))
			p.look()
		}
	}
}

func TestOpenOfADirectory(t *testing.T) { // P21.2, P21.3
	p := clashPair(t, "a machine")
	for _, path := range []string{"/", "/d", "/d/e", d3} {
		p.refuse(api.EISDIR, open(path, 0), open(path, create), open(path, excl), open(path, writes), open(path, trunc|writes), open(path, create|trunc|writes|app))
		p.refuse(api.EEXIST, open(path, create|excl), open(path, create|excl|writes), open(path, create|excl|trunc|writes))
	}
	p.look()
}

func TestExclusiveOpen(t *testing.T) { // P21.2
	p := clashPair(t, "a machine")
	p.refuse(api.EEXIST, open("/d/f", create|excl), open("/g", create|excl), open(g1, create|excl), open("/d/f", create|excl|trunc|writes), open("/d/f", create|excl|writes|app))
	p.want(told{call: open(g1, create)}, told{call: open("/g", excl), n: 1})
	p.wantShape(clashShape).look()
}

func TestOpenCuts(t *testing.T) { // P21.2
	p := basePair(t, "a machine")
	p.want(
		told{call: open("/g", trunc|writes)}, // of no bytes already
		told{call: open("/d/f", 0), n: 1},
		told{call: open("/d/f", trunc|writes), n: 2, made: `write 3.2 ""`},
		told{call: open("/d/f", trunc|writes), n: 3},
		told{call: write(2, "more"), n: 4, made: `write 3.2 "more"`},
		told{call: open("/d/f", create|trunc|writes|app), n: 4, made: `write 3.2 ""`},
	).wantRead(1, 9, "").wantShape("d(e() f=) g").look()
}

// The Size is that of the last head, whatever the others hold.
func TestOpenCutsTheLastHead(t *testing.T) { // P21.2
	p := basePair(t, "empty last").load(puts(id(9, 1), f, ""))
	p.wantShape("d(e() f=text=) g").want(told{call: open("/d/f", trunc|writes)}).wantShape("d(e() f=text=) g").look()
	p = basePair(t, "empty first").load(puts(id(1, 3), d, "of no file"), puts(id(4, 1), f, "", 0, 0))
	p.wantShape("d(e() f==text) g").want(told{call: open("/d/f", trunc|writes), made: `write 3.2 ""`}).wantShape("d(e() f=) g").look()
}

// crowd opens all descriptors.
func (p *pair) crowd() *pair {
	p.t.Helper()
	for fd := range 32 {
		p.want(told{call: open("/d/f", writes), n: fd})
	}
	return p
}

func TestDescriptors(t *testing.T) { // P21.2
	p := clashPair(t, "a machine").crowd()
	p.refuse(api.ENFILE, open("/d/f", 0), open("/g", trunc|writes), open("/d/f", trunc|writes), open("/x", create), open("/x", create|excl), open(g1, create))
	p.pass(closing(17), closing(3), closing(31))
	p.want(told{call: open("/x", create), n: 3, made: "file 9.2 in 0.0 as x"}, told{call: open("/g", 0), n: 17}, told{call: open("/d/e/x", create), n: 31, made: "file 10.2 in 2.2 as x"})
	p.refuse(api.ENFILE, open("/y", create), open("/g", 0)).look()
	p.clear()
	p.want(told{call: open("/g", 0)})
}

// All that is told of a path comes ahead of ENFILE.
func TestNoRoomForADescriptorComesLast(t *testing.T) { // P21.2, P21.3, P0.2
	p := clashPair(t, "a machine").crowd()
	p.refuse(api.EINVAL, open("/g", 32), open("/g", trunc), open("", 0), open("/g\x019.1", create), open("/d/", create))
	p.refuse(api.ENAMETOOLONG, open(long, 0), open("/"+name65, create))
	p.refuse(api.ENOENT, open("/x", 0), open("/x/y", create), open("/g\x019.1", 0))
	p.refuse(api.ENOTDIR, open("/g/x", create), open("/g/x", 0))
	p.refuse(api.EEXIST, open("/g", create|excl), open("/", create|excl), open("/d", create|excl))
	p.refuse(api.EISDIR, open("/", 0), open("/", create), open("/d", writes))
	p.refuse(api.ENFILE, open("/g", 0), open("/y", create))
	no := func(os ...api.Op) bool { return false }
	for _, c := range []api.Call{open("/y", create), open("/d/f", trunc|writes)} {
		if r, _ := p.doIf(c, no); r.Err != api.ENFILE {
			t.Errorf("%v: %d", c, r.Err)
		}
	}
	p.look()
}

// What is opened is a file, not a path: it goes on when it is moved, and is another one than that which is made in its place.
func TestAnOpenFileThatMoves(t *testing.T) { // P21.2
	p := basePair(t, "a machine")
	p.want(told{call: open("/d/f", writes)}, told{call: rename("/d/f", "/h"), made: "move 3.2 in 0.0 as h"}).wantRead(0, 2, "te")
	p.want(told{call: write(0, "XT!"), n: 3, made: `write 3.2 "teXT!"`})
	p.want(told{call: open("/d/f", create|writes), n: 1, made: "file 8.2 in 1.2 as f"}).wantRead(1, 9, "")
	p.load(moves(id(20, 1), d, ops.Root(), "dd", 0, 0, 8)).want(told{call: write(1, "new"), n: 3, made: `write 8.2 "new"`})
	p.wantShape("dd(e() f=new) g h=teXT!").look()
}
