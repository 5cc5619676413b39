package vfs

import (
	"bytes"
	"cmp"
	"fmt"
	"slices"
	"sort"
	"strings"
	"testing"

	"lagoon/api"
	"lagoon/clock"
	"lagoon/path"
)

// thing is a directory or a file of a plain tree: no operations, no stamps, no versions.
type thing struct {
	up      *thing
	kids    map[string]*thing // of a directory
	data    []byte
	written bool
	gone    bool
	obj     api.ID // what it was first told to be
}

func (x *thing) dir() bool { return x != nil && x.kids != nil }

// holder has a file open.
type holder struct {
	file      *thing
	flags, at int
}

// posix is one machine alone, as it would be if there were no others.
type posix struct {
	root *thing
	open map[int]*holder
}

func newPosix() *posix {
	return &posix{root: &thing{kids: map[string]*thing{}}, open: map[int]*holder{}}
}

// find gives what is at the path, what is to hold its last name, and that.
func (p *posix) find(s string) (at, up *thing, last string, e api.Errno) {
	names, e := path.Parse(s)
	at = p.root
	for _, name := range names {
		if e == api.OK && at == nil {
			e = api.ENOENT
		} else if e == api.OK && !at.dir() {
			e = api.ENOTDIR
		}
		if e != api.OK {
			return nil, nil, "", e
		}
		at, up, last = at.kids[name], at, name
	}
	return at, up, last, e
}

func (p *posix) full() api.Errno { return when(len(p.open) == 32, api.ENFILE) }

// put puts it there.
func (x *thing) put(up *thing, name string) {
	if old := up.kids[name]; old != nil {
		old.gone = true
	}
	x.drop()
	x.up = up
	up.kids[name] = x
}

// drop takes it from where it is.
func (x *thing) drop() {
	if x.up != nil {
		for name, k := range x.up.kids {
			if k == x {
				delete(x.up.kids, name)
			}
		}
	}
}

func (x *thing) set(data []byte) { x.data, x.written = data, true }

// reply is what a call comes to: an error, a result, and what it does if it isn't refused.
type reply struct {
	e    api.Errno
	r    api.Result
	what *thing // of which Stat tells
	list map[string]*thing
	does func(r *api.Result)
}

func (p *posix) do(c api.Call) reply {
	at, up, last, e := p.find(c.Path)
	none, noDir, isDir := when(at == nil, api.ENOENT), when(!at.dir(), api.ENOTDIR), when(at.dir(), api.EISDIR)
	fresh := when(strings.Contains(last, "\x01"), api.EINVAL)
	switch c.Fn {
	case api.COpen:
		return p.doOpen(c)
	case api.CRead, api.CWrite, api.CSeek, api.CClose:
		return p.doHeld(c)
	case api.CMkdir:
		return reply{e: cmp.Or(e, when(at != nil, api.EEXIST), fresh), does: func(*api.Result) { (&thing{kids: map[string]*thing{}}).put(up, last) }}
	case api.CRmdir:
		return reply{e: cmp.Or(e, when(at == p.root, api.EBUSY), none, noDir, when(at != nil && len(at.kids) > 0, api.ENOTEMPTY)), does: func(*api.Result) { at.drop() }}
	case api.CUnlink:
		return reply{e: cmp.Or(e, none, isDir), does: func(*api.Result) { at.drop(); at.gone = true }}
	case api.CRename:
		return p.doRename(c)
	case api.CReaddir:
		if e = cmp.Or(e, none, noDir); e == api.OK {
			return reply{list: at.kids}
		}
		return reply{e: e}
	case api.CStat:
		return reply{e: cmp.Or(e, none), what: at}
	case api.CSync:
		return reply{}
	case api.CLink:
		return reply{e: api.EPERM}
	case api.CTruncate:
		return reply{e: cmp.Or(e, none, isDir, when(c.N < 0, api.EINVAL), when(c.N > 65536, api.EFBIG)), does: func(*api.Result) {
			if c.N != len(at.data) {
				at.set(append(bytes.Clone(at.data), make([]byte, c.N)...)[:c.N])
			}
		}}
	case api.CConflicts:
		var r api.Result
		if e = cmp.Or(e, none, isDir); e == api.OK && at.written {
			r.List = []api.Entry{{Size: len(at.data)}}
		}
		return reply{e: e, r: r}
	case api.CResolve:
		return reply{e: cmp.Or(e, none, isDir, when(c.N != 0 || at != nil && !at.written, api.EINVAL))}
	}
	return reply{e: api.EINVAL}
}

func (p *posix) doOpen(c api.Call) reply {
	wrong := c.Flags&^31 != 0 || c.Flags&(trunc|app) != 0 && c.Flags&writes == 0
	at, up, last, e := p.find(c.Path)
	e = cmp.Or(when(wrong, api.EINVAL), e)
	if at != nil {
		e = cmp.Or(e, when(c.Flags&(create|excl) == create|excl, api.EEXIST), when(at.dir(), api.EISDIR), p.full())
	} else {
		e = cmp.Or(e, when(c.Flags&create == 0, api.ENOENT), when(strings.Contains(last, "\x01"), api.EINVAL), p.full())
	}
	return reply{e: e, does: func(r *api.Result) {
		if at == nil {
			at = &thing{}
			at.put(up, last)
		} else if c.Flags&trunc != 0 && len(at.data) > 0 {
			at.set(nil)
		}
		for p.open[r.N] != nil {
			r.N++
		}
		p.open[r.N] = &holder{file: at, flags: c.Flags}
	}}
}

func (p *posix) doRename(c api.Call) reply {
	at, _, _, e := p.find(c.Path)
	e = cmp.Or(e, when(at == p.root, api.EBUSY), when(at == nil, api.ENOENT))
	to, up, last, toE := p.find(c.To)
	e = cmp.Or(e, toE, when(to == p.root, api.EBUSY))
	if e != api.OK || to == at {
		return reply{e: e}
	}
	below := false
	for x := up; x != nil; x = x.up {
		below = below || x == at
	}
	e = when(below, api.EINVAL)
	if to != nil {
		e = cmp.Or(e, when(to.dir() && !at.dir(), api.EISDIR), when(!to.dir() && at.dir(), api.ENOTDIR), when(len(to.kids) > 0, api.ENOTEMPTY))
	}
	return reply{e: cmp.Or(e, when(strings.Contains(last, "\x01"), api.EINVAL)), does: func(*api.Result) { at.put(up, last) }}
}

func (p *posix) doHeld(c api.Call) reply {
	h := p.open[c.Fd]
	if h == nil {
		return reply{e: api.EBADF}
	}
	stale, size := when(h.file.gone, api.ESTALE), len(h.file.data)
	switch c.Fn {
	case api.CRead:
		return reply{e: cmp.Or(when(c.N < 0 || c.N > 65536, api.EINVAL), stale), does: func(r *api.Result) {
			from := min(h.at, size)
			r.Data = h.file.data[from:min(from+c.N, size)]
			r.N = len(r.Data)
			h.at += r.N
		}}
	case api.CWrite:
		at := h.at
		if h.flags&app != 0 {
			at = size
		}
		end := at + len(c.Data)
		return reply{e: cmp.Or(when(h.flags&writes == 0, api.EBADF), stale, when(end > 65536, api.EFBIG)), does: func(r *api.Result) {
			if len(c.Data) > 0 {
				data := append(bytes.Clone(h.file.data), make([]byte, max(0, end-size))...)
				copy(data[at:], c.Data)
				h.file.set(data)
				h.at, r.N = end, len(c.Data)
			}
		}}
	case api.CSeek:
		if c.Flags < 0 || c.Flags > 2 || c.Flags == 2 && h.file.gone {
			return reply{e: cmp.Or(when(c.Flags == 2, api.ESTALE), api.EINVAL)}
		}
		from := []int{0, h.at, size}[c.Flags]
		return reply{e: cmp.Or(when(c.N < -from, api.EINVAL), when(c.N > 1<<30-from, api.EOVERFLOW)), does: func(r *api.Result) { h.at, r.N = from+c.N, from+c.N }}
	}
	return reply{does: func(*api.Result) { delete(p.open, c.Fd) }}
}

// knows holds that the thing is the object that it was told to be before.
func (x *thing) knows(obj api.ID) bool {
	if x.obj == (api.ID{}) {
		x.obj = obj
	}
	return x.obj == obj
}

// result gives what is to be told, the objects being those that are told: nothing but them is new here.
func (k reply) result(got api.Result) api.Result {
	want := k.r
	if want.Err = k.e; k.e != api.OK {
		return api.Result{Err: k.e}
	}
	if k.does != nil {
		k.does(&want)
	}
	if x := k.what; x != nil {
		want.Stat = api.Stat{Obj: got.Stat.Obj, Dir: x.dir(), Size: len(x.data)}
		if x.written {
			want.Stat.Heads = 1
		}
		if x.up != nil && !x.knows(got.Stat.Obj) {
			want.Stat.Obj = x.obj
		}
	}
	var names []string
	for name := range k.list {
		names = append(names, name)
	}
	sort.Strings(names)
	for i, name := range names {
		x := k.list[name]
		e := api.Entry{Name: name, Obj: x.obj, Dir: x.dir(), Size: len(x.data)}
		if i < len(got.List) && x.knows(got.List[i].Obj) {
			e.Obj = x.obj
		}
		want.List = append(want.List, e)
	}
	for i := range k.r.List { // the stamps of versions
		if i < len(got.List) {
			want.List[i].Obj = got.List[i].Obj
		}
	}
	return want
}

// alone is a machine alone and the plain tree, which are told the same.
type alone struct {
	t     *testing.T
	what  string
	fs    *FS
	posix *posix
}

func (a *alone) do(c api.Call) {
	a.t.Helper()
	r, _ := a.fs.Do(c, nil)
	if want := a.posix.do(c).result(r); !sameResult(r, want) {
		a.t.Fatalf("%s: %s: %s; want %s", a.what, short(c), short(r), short(want))
	}
	if n := a.fs.Open(); n != len(a.posix.open) {
		a.t.Fatalf("%s: Open = %d behind %s, want %d", a.what, n, short(c), len(a.posix.open))
	}
}

// look goes over the whole tree.
func (a *alone) look(at *thing, s string) {
	a.t.Helper()
	a.do(stat(s))
	a.do(readdir(s))
	a.do(conflicts(s))
	names := make([]string, 0, len(at.kids))
	for name := range at.kids {
		names = append(names, name)
	}
	slices.Sort(names)
	for _, name := range names {
		a.look(at.kids[name], strings.TrimSuffix(s, "/")+"/"+name)
	}
}

func TestOneMachineAlone(t *testing.T) { // P21.2
	for i, fns := range moods() {
		for seed := range 60 {
			n := noise(seed*len(moods()) + i + 20000)
			fs := New(9, clock.New(9, 0, 0))
			a := &alone{t: t, what: fmt.Sprint("mood ", i, ", seed ", seed), fs: fs, posix: newPosix()}
			near := &pair{fs: fs, plain: &plain{view: fs.View(), open: map[int]handle{}}}
			for range 200 {
				for fd := range 32 {
					delete(near.plain.open, fd)
					if a.posix.open[fd] != nil {
						near.plain.open[fd] = handle{}
					}
				}
				a.do(n.call(near, fns))
			}
			a.look(a.posix.root, "/")
			if s := shape(fs.View(), api.ID{}); strings.Contains(s, "~") {
				t.Errorf("%s: a name has a suffix: %s", a.what, s)
			}
		}
	}
}
