package vfs

import (
	"bytes"
	"fmt"
	"slices"
	"strings"
	"testing"

	"lagoon/api"
	"lagoon/clock"
	"lagoon/ops"
	"lagoon/path"
	"lagoon/view"
)

// The calls.

func open(path string, flags int) api.Call {
	return api.Call{Fn: api.COpen, Path: path, Flags: flags}
}

func read(fd, n int) api.Call { return api.Call{Fn: api.CRead, Fd: fd, N: n} }

func write(fd int, data string) api.Call {
	return api.Call{Fn: api.CWrite, Fd: fd, Data: []byte(data)}
}

func seek(fd, n, from int) api.Call { return api.Call{Fn: api.CSeek, Fd: fd, N: n, Flags: from} }

func closing(fd int) api.Call { return api.Call{Fn: api.CClose, Fd: fd} }

func mkdir(path string) api.Call { return api.Call{Fn: api.CMkdir, Path: path} }

func rmdir(path string) api.Call { return api.Call{Fn: api.CRmdir, Path: path} }

func unlink(path string) api.Call { return api.Call{Fn: api.CUnlink, Path: path} }

func rename(path, to string) api.Call { return api.Call{Fn: api.CRename, Path: path, To: to} }

func readdir(path string) api.Call { return api.Call{Fn: api.CReaddir, Path: path} }

func stat(path string) api.Call { return api.Call{Fn: api.CStat, Path: path} }

func truncate(path string, n int) api.Call { return api.Call{Fn: api.CTruncate, Path: path, N: n} }

func conflicts(path string) api.Call { return api.Call{Fn: api.CConflicts, Path: path} }

func resolve(path string, n int) api.Call { return api.Call{Fn: api.CResolve, Path: path, N: n} }

// pair is a machine and the plain one, which are told the same.
type pair struct {
	t     *testing.T
	what  string
	fs    *FS
	clock *clock.Clock
	plain *plain
}

func newPairOf(t *testing.T, what string, node int, time int64) *pair {
	t.Helper()
	c := clock.New(node, time, time)
	p := &pair{t: t, what: what, fs: New(node, c), clock: c, plain: newPlain(node, time)}
	if p.fs == nil {
		t.Fatalf("%s: New is nil", what)
	}
	p.count()
	return p
}

// newPair has a machine of the node 2.
func newPair(t *testing.T, what string) *pair {
	t.Helper()
	return newPairOf(t, what, 2, 0)
}

func (p *pair) do(c api.Call) (api.Result, []api.Op) {
	p.t.Helper()
	return p.doIf(c, nil)
}

// doIf holds the answers, and what fits is asked, against the words. While it is asked, nothing has changed.
func (p *pair) doIf(c api.Call, fits func(os ...api.Op) bool) (api.Result, []api.Op) {
	p.t.Helper()
	var asked, wantAsked [][]api.Op
	spy, plainSpy := fits, fits
	if fits != nil {
		before := p.state()
		spy = func(os ...api.Op) bool {
			asked = append(asked, os)
			if now := p.state(); now != before {
				p.t.Errorf("%s: %s: while fits is asked: %s, was %s", p.what, short(c), now, before)
			}
			return fits(os...)
		}
		plainSpy = func(os ...api.Op) bool {
			wantAsked = append(wantAsked, os)
			return fits(os...)
		}
	}
	r, made := p.fs.Do(c, spy)
	want, wantMade := p.plain.do(c, plainSpy)
	if !sameResult(r, want) {
		p.t.Fatalf("%s: %s: %s; want %s", p.what, short(c), short(r), short(want))
	}
	if !slices.EqualFunc(made, wantMade, ops.Eq) {
		p.t.Fatalf("%s: %s made %s; want %s", p.what, short(c), short(made), short(wantMade))
	}
	if !slices.EqualFunc(asked, wantAsked, func(a, b []api.Op) bool { return slices.EqualFunc(a, b, ops.Eq) }) {
		p.t.Fatalf("%s: %s asked %s; want %s", p.what, short(c), short(asked), short(wantAsked))
	}
	p.count()
	return r, made
}

func short(x any) string { return fmt.Sprintf("%.300s", fmt.Sprint(x)) }

// state tells what is seen of the machine without a call.
func (p *pair) state() string {
	return fmt.Sprint(p.fs.Vector(), p.fs.View().Len(), p.fs.Open())
}

func sameResult(a, b api.Result) bool {
	return a.Err == b.Err && a.N == b.N && bytes.Equal(a.Data, b.Data) && slices.Equal(a.List, b.List) && a.Stat == b.Stat
}

// load gives the operations to both.
func (p *pair) load(os ...api.Op) *pair {
	p.t.Helper()
	for _, o := range os {
		if e := p.loadOne(o); e != api.OK {
			p.t.Fatalf("%s: Load(%s) = %d", p.what, short(o), e)
		}
	}
	return p
}

func (p *pair) loadOne(o api.Op) api.Errno {
	p.t.Helper()
	e, want := p.fs.Load(o), p.plain.load(o)
	if e != want {
		p.t.Fatalf("%s: Load(%s) = %d, want %d", p.what, short(o), e, want)
	}
	p.count()
	return e
}

func (p *pair) clear() {
	p.t.Helper()
	p.fs.Clear()
	clear(p.plain.open)
	p.count()
}

// count holds what is told without a call.
func (p *pair) count() {
	p.t.Helper()
	if v := p.fs.Vector(); !slices.Equal(v, p.plain.vector()) {
		p.t.Fatalf("%s: Vector = %v, want %v", p.what, v, p.plain.vector())
	}
	if n := p.fs.Open(); n != len(p.plain.open) {
		p.t.Fatalf("%s: Open = %d, want %d", p.what, n, len(p.plain.open))
	}
	if n := p.fs.View().Len(); n != p.plain.view.Len() {
		p.t.Fatalf("%s: View().Len() = %d, want %d", p.what, n, p.plain.view.Len())
	}
	if now := p.clock.Now(); now != p.plain.time {
		p.t.Fatalf("%s: the clock is at %d, want %d", p.what, now, p.plain.time)
	}
}

// look holds all that the machine can tell.
func (p *pair) look() *pair {
	p.t.Helper()
	for fd := -1; fd < 34; fd++ {
		for _, c := range []api.Call{seek(fd, 0, 1), read(fd, 0), write(fd, "")} { // these change nothing
			p.do(c)
		}
	}
	if a, b := shape(p.fs.View(), ops.Root()), shape(p.plain.view, ops.Root()); a != b {
		p.t.Fatalf("%s: %s, want %s", p.what, a, b)
	}
	p.lookAt(nil)
	return p
}

func (p *pair) lookAt(names []string) {
	p.t.Helper()
	at := path.Join(names)
	p.do(stat(at))
	p.do(conflicts(at))
	r, _ := p.do(readdir(at))
	for _, e := range r.List {
		p.lookAt(append(slices.Clone(names), e.Name))
	}
}

// shape tells what is shown below a directory: what is in a directory in brackets, the heads of a file behind = each. A ~ stands for the byte 1.
func shape(v *view.View, id api.ID) string {
	var all []string
	list, _ := v.List(id)
	for _, e := range list {
		text := strings.ReplaceAll(e.Name, "\x01", "~")
		if e.Dir {
			text += "(" + shape(v, e.Obj) + ")"
		}
		heads, _ := v.Heads(e.Obj)
		for _, h := range heads {
			text += "=" + string(h.Data)
		}
		all = append(all, text)
	}
	return strings.Join(all, " ")
}

func (p *pair) wantShape(want string) *pair {
	p.t.Helper()
	if got := shape(p.fs.View(), ops.Root()); got != want {
		p.t.Fatalf("%s: %s, want %s", p.what, got, want)
	}
	return p
}

// textOf tells what operations do.
func textOf(os []api.Op) string {
	var all []string
	for _, o := range os {
		what := []string{"none", "dir", "file", "move", "write"}[o.Kind]
		what += fmt.Sprintf(" %d.%d", o.Obj.Time, o.Obj.Node)
		if o.Kind == api.KWrite {
			what += fmt.Sprintf(" %.40q", o.Data)
		} else {
			what += fmt.Sprintf(" in %d.%d as %s", o.Parent.Time, o.Parent.Node, o.Name)
		}
		all = append(all, what)
	}
	return strings.Join(all, ", ")
}

// told is a call and what it answers: an error, N, and what it makes.
type told struct {
	call api.Call
	e    api.Errno
	n    int
	made string
}

// want makes the calls one behind the other.
func (p *pair) want(all ...told) *pair {
	p.t.Helper()
	for i, x := range all {
		r, made := p.do(x.call)
		if r.Err != x.e || r.N != x.n || textOf(made) != x.made {
			p.t.Fatalf("%s: %d, %s: %d, %d, %s; want %d, %d, %s", p.what, i, short(x.call), r.Err, r.N, textOf(made), x.e, x.n, x.made)
		}
	}
	return p
}

// refuse holds that each of the calls tells the error, and that none changes anything.
func (p *pair) refuse(e api.Errno, calls ...api.Call) *pair {
	p.t.Helper()
	before := *p.clock
	for _, c := range calls {
		p.want(told{call: c, e: e})
	}
	if *p.clock != before {
		p.t.Fatalf("%s: a call that was refused took a stamp", p.what)
	}
	return p
}

// pass holds that each of the calls is OK.
func (p *pair) pass(calls ...api.Call) *pair {
	p.t.Helper()
	for _, c := range calls {
		if r, _ := p.do(c); r.Err != api.OK {
			p.t.Fatalf("%s: %s: %d", p.what, short(c), r.Err)
		}
	}
	return p
}

// wantRead holds what a descriptor reads.
func (p *pair) wantRead(fd, n int, want string) *pair {
	p.t.Helper()
	r, _ := p.do(read(fd, n))
	if string(r.Data) != want || r.N != len(want) || r.Err != api.OK {
		p.t.Fatalf("%s: read %d of %d: %.99q, %d, %d; want %.99q", p.what, n, fd, r.Data, r.N, r.Err, want)
	}
	return p
}

const (
	create = api.OCreate
	excl   = api.OExcl
	trunc  = api.OTrunc
	writes = api.OWrite
	app    = api.OAppend
)

// basePair has a few objects, and no descriptor.
func basePair(t *testing.T, what string) *pair {
	t.Helper()
	p := newPair(t, what)
	return p.want(
		told{call: mkdir("/d"), made: "dir 1.2 in 0.0 as d"},
		told{call: mkdir("/d/e"), made: "dir 2.2 in 1.2 as e"},
		told{call: open("/d/f", create|writes), made: "file 3.2 in 1.2 as f"},
		told{call: write(0, "text"), n: 4, made: `write 3.2 "text"`},
		told{call: closing(0)},
		told{call: open("/g", create), made: "file 5.2 in 0.0 as g"},
		told{call: closing(0)},
	).wantShape(baseShape)
}

const baseShape = "d(e() f=text) g"

func id(time int64, node int) api.ID { return api.ID{Time: time, Node: node} }

// f and g are files of base, d and e directories.
var d, e, f, g = id(1, 2), id(2, 2), id(3, 2), id(5, 2)

// The operations of other nodes, which say how many of theirs and of others they have seen.

func makes(kind int, stamp, parent api.ID, name string, seen ...int64) api.Op {
	return numbered(api.Op{Stamp: stamp, Kind: kind, Obj: stamp, Parent: parent, Name: name, Seen: seen})
}

func moves(stamp, obj, parent api.ID, name string, seen ...int64) api.Op {
	return numbered(api.Op{Stamp: stamp, Kind: api.KMove, Obj: obj, Parent: parent, Name: name, Seen: seen})
}

func puts(stamp, obj api.ID, data string, seen ...int64) api.Op {
	return numbered(api.Op{Stamp: stamp, Kind: api.KWrite, Obj: obj, Data: []byte(data), Seen: seen})
}

func numbered(o api.Op) api.Op {
	o.Seq = 1
	if o.Stamp.Node < len(o.Seen) {
		o.Seq += o.Seen[o.Stamp.Node]
	}
	return o
}

// clashes are operations of the nodes 1 and 3 that know nothing of the node 2: two names that stand there already, and another version of a file.
func clashes() []api.Op {
	return []api.Op{
		makes(api.KFile, id(6, 1), ops.Root(), "g"),
		puts(id(7, 1), f, "other", 0, 1),
		makes(api.KDir, id(6, 3), ops.Root(), "d"),
		makes(api.KFile, id(8, 3), id(6, 3), "x", 0, 0, 0, 1),
	}
}

// clashPair is basePair with those.
func clashPair(t *testing.T, what string) *pair {
	t.Helper()
	return basePair(t, what).load(clashes()...).wantShape(clashShape)
}

const (
	clashShape = "d(e() f=text=other) d~6.3(x) g g~6.1"
	g1         = "/g\x016.1"
	d3         = "/d\x016.3"
)

// noise gives numbers that hang on where it began alone.
type noise uint64

func (n *noise) below(limit int) int {
	*n = *n*6364136223846793005 + 1442695040888963407
	return int(*n>>33) % limit
}

// pick gives one of the list.
func pick[T any](n *noise, list []T) T { return list[n.below(len(list))] }
