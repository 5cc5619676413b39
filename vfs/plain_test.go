package vfs

import (
	"bytes"
	"cmp"
	"slices"

	"lagoon/api"
	"lagoon/ops"
	"lagoon/path"
	"lagoon/view"
)

// What follows are the chapter's words, written down plainly, to hold the package against. The layers below are taken for what they are.

// handle is what is open.
type handle struct {
	obj       api.ID
	flags, at int
}

// plain is a machine.
type plain struct {
	node int
	time int64 // the clock's
	seen [64]int64
	view *view.View
	open map[int]handle
}

func newPlain(node int, time int64) *plain {
	return &plain{node: node, time: time, view: view.New(), open: map[int]handle{}}
}

// vector has no zeros at its end.
func (p *plain) vector() api.Vector {
	v := slices.Clone(p.seen[:])
	for len(v) > 0 && v[len(v)-1] == 0 {
		v = v[:len(v)-1]
	}
	return v
}

func (p *plain) load(o api.Op) api.Errno {
	if !ops.May(o) || o.Seq != p.seen[o.Stamp.Node]+1 {
		return api.EINVAL
	}
	for node, n := range o.Seen {
		if n != 0 && n > p.seen[node] {
			return api.EINVAL
		}
	}
	if e := p.view.Apply(o); e != api.OK {
		return e
	}
	p.seen[o.Stamp.Node]++
	p.time = max(p.time, o.Stamp.Time)
	return api.OK
}

// spot is what a path tells.
type spot struct {
	e     api.Errno // the path's
	names []string
	up    api.ID
	last  string
	there bool
	stat  api.Stat
	list  []api.Entry
}

func (s spot) root() bool { return s.e == api.OK && len(s.names) == 0 }

func (p *plain) at(text string) spot {
	var s spot
	s.names, s.e = path.Parse(text)
	if s.e != api.OK {
		return s
	}
	if len(s.names) == 0 {
		return p.met(s, ops.Root())
	}
	s.last = s.names[len(s.names)-1]
	s.up, s.e = p.view.Walk(s.names[:len(s.names)-1])
	if s.e != api.OK {
		return s
	}
	list, e := p.view.List(s.up)
	s.e = e
	for _, x := range list {
		if x.Name == s.last {
			return p.met(s, x.Obj)
		}
	}
	return s
}

func (p *plain) met(s spot, obj api.ID) spot {
	s.there = true
	s.stat, _ = p.view.Stat(obj)
	s.list, _ = p.view.List(obj)
	return s
}

// when gives the error, if there is that reason for it.
func when(reason bool, e api.Errno) api.Errno {
	if reason {
		return e
	}
	return api.OK
}

// answer is what a call comes to ahead of its operations: an error, or a result and what is to be made for it.
type answer struct {
	e      api.Errno
	result api.Result
	drafts []api.Op
	then   func(made []api.Op, r *api.Result)
}

func (p *plain) do(c api.Call, fits func(os ...api.Op) bool) (api.Result, []api.Op) {
	var a answer
	switch c.Fn {
	case api.COpen:
		a = p.doOpen(c)
	case api.CRead, api.CWrite, api.CSeek, api.CClose:
		a = p.doHandle(c)
	case api.CMkdir, api.CRmdir, api.CUnlink, api.CReaddir, api.CStat:
		a = p.doTree(c)
	case api.CRename:
		a = p.doRename(c)
	case api.CTruncate, api.CConflicts, api.CResolve:
		a = p.doFile(c)
	case api.CSync:
	case api.CLink:
		a.e = api.EPERM
	default:
		a.e = api.EINVAL
	}
	made, e := []api.Op(nil), a.e
	if e == api.OK && len(a.drafts) > 0 {
		made, e = p.make(a.drafts, fits)
	}
	if e != api.OK {
		return api.Result{Err: e}, nil
	}
	if a.then != nil {
		a.then(made, &a.result)
	}
	return a.result, made
}

func (p *plain) make(drafts []api.Op, fits func(os ...api.Op) bool) ([]api.Op, api.Errno) {
	made := slices.Clone(drafts)
	for i := range made {
		if p.time == 1<<60 {
			return nil, api.EOVERFLOW
		}
		p.time++
		made[i].Stamp = api.ID{Time: p.time, Node: p.node}
		if made[i].Kind <= api.KFile {
			made[i].Obj = made[i].Stamp
		}
		made[i].Seq = p.seen[p.node] + int64(i) + 1
		seen := p.seen
		seen[p.node] += int64(i)
		made[i].Seen = (&plain{seen: seen}).vector()
	}
	if fits != nil && !fits(made...) {
		return nil, api.ENOSPC
	}
	for _, o := range made {
		p.view.Apply(o)
		p.seen[p.node]++
	}
	return made, api.OK
}

func (p *plain) give(obj api.ID, flags int) int {
	for fd := 0; ; fd++ {
		if _, ok := p.open[fd]; !ok {
			p.open[fd] = handle{obj: obj, flags: flags}
			return fd
		}
	}
}

func (p *plain) doOpen(c api.Call) (a answer) {
	s := p.at(c.Path)
	full := when(len(p.open) == 32, api.ENFILE)
	wrong := c.Flags&^31 != 0 || c.Flags&(api.OTrunc|api.OAppend) != 0 && c.Flags&api.OWrite == 0
	a.e = cmp.Or(when(wrong, api.EINVAL), s.e)
	obj := s.stat.Obj
	if s.there {
		a.e = cmp.Or(a.e, when(c.Flags&3 == 3, api.EEXIST), when(s.stat.Dir, api.EISDIR), full)
		if c.Flags&api.OTrunc != 0 && s.stat.Size != 0 {
			a.drafts = []api.Op{{Kind: api.KWrite, Obj: obj}}
		}
	} else {
		a.e = cmp.Or(a.e, when(c.Flags&api.OCreate == 0, api.ENOENT), path.Fresh(s.names), full)
		a.drafts = []api.Op{{Kind: api.KFile, Parent: s.up, Name: s.last}}
	}
	a.then = func(made []api.Op, r *api.Result) {
		if !s.there {
			obj = made[0].Stamp
		}
		r.N = p.give(obj, c.Flags)
	}
	return a
}

// spread gives the bytes with others at a place, and zeros between.
func spread(b []byte, at int, other []byte) []byte {
	b = bytes.Clone(b)
	for len(b) < at+len(other) {
		b = append(b, 0)
	}
	for i, x := range other {
		b[at+i] = x
	}
	return b
}

func (p *plain) doHandle(c api.Call) (a answer) {
	h, ok := p.open[c.Fd]
	closed, stale := when(!ok, api.EBADF), when(!p.view.Live(h.obj), api.ESTALE)
	value, _ := p.view.Read(h.obj)
	goOn := func(at int) {
		h.at = at
		p.open[c.Fd] = h
	}
	switch c.Fn {
	case api.CRead:
		a.e = cmp.Or(closed, when(c.N < 0 || c.N > 65536, api.EINVAL), stale)
		for i := h.at; i < len(value) && i-h.at < c.N; i++ {
			a.result.Data = append(a.result.Data, value[i])
		}
		a.result.N = len(a.result.Data)
		a.then = func(made []api.Op, r *api.Result) { goOn(h.at + r.N) }
	case api.CWrite:
		at := h.at
		if h.flags&api.OAppend != 0 {
			at = len(value)
		}
		a.e = cmp.Or(closed, when(h.flags&api.OWrite == 0, api.EBADF), stale, when(at+len(c.Data) > 65536, api.EFBIG))
		if a.e == api.OK && len(c.Data) > 0 {
			a.drafts = []api.Op{{Kind: api.KWrite, Obj: h.obj, Data: spread(value, at, c.Data)}}
			a.result.N = len(c.Data)
			a.then = func(made []api.Op, r *api.Result) { goOn(at + r.N) }
		}
	case api.CSeek:
		from := map[int]int{0: 0, 1: h.at, 2: len(value)}
		a.e = cmp.Or(closed, when(c.Flags < 0 || c.Flags > 2, api.EINVAL), when(c.Flags == 2, stale),
			when(c.N < -from[c.Flags], api.EINVAL), when(c.N > 1<<30-from[c.Flags], api.EOVERFLOW))
		a.result.N = from[c.Flags] + c.N
		a.then = func(made []api.Op, r *api.Result) { goOn(r.N) }
	case api.CClose:
		a.e = closed
		a.then = func(made []api.Op, r *api.Result) { delete(p.open, c.Fd) }
	}
	return a
}

// bin moves the object to the trash, with its own name.
func (p *plain) bin(obj api.ID) api.Op {
	_, own, _ := p.view.Where(obj)
	return api.Op{Kind: api.KMove, Obj: obj, Parent: ops.Trash(), Name: own}
}

func (p *plain) doTree(c api.Call) (a answer) {
	s := p.at(c.Path)
	none := when(!s.there, api.ENOENT)
	noDir, isDir := when(!s.stat.Dir, api.ENOTDIR), when(s.stat.Dir, api.EISDIR)
	switch c.Fn {
	case api.CMkdir:
		a.e = cmp.Or(s.e, when(s.there, api.EEXIST), path.Fresh(s.names))
		a.drafts = []api.Op{{Kind: api.KDir, Parent: s.up, Name: s.last}}
	case api.CRmdir:
		a.e = cmp.Or(s.e, when(s.root(), api.EBUSY), none, noDir, when(len(s.list) > 0, api.ENOTEMPTY))
		a.drafts = []api.Op{p.bin(s.stat.Obj)}
	case api.CUnlink:
		a.e = cmp.Or(s.e, when(s.root(), api.EISDIR), none, isDir)
		a.drafts = []api.Op{p.bin(s.stat.Obj)}
	case api.CReaddir:
		a.e = cmp.Or(s.e, none, noDir)
		a.result.List = s.list
	case api.CStat:
		a.e = cmp.Or(s.e, none)
		a.result.Stat = s.stat
	}
	return a
}

func (p *plain) doRename(c api.Call) (a answer) {
	s, to := p.at(c.Path), p.at(c.To)
	a.e = cmp.Or(s.e, when(s.root(), api.EBUSY), when(!s.there, api.ENOENT), to.e, when(to.root(), api.EBUSY))
	obj, old := s.stat.Obj, to.stat.Obj
	if a.e != api.OK || to.there && old == obj {
		return a
	}
	a.e = when(to.up == obj || p.view.Below(to.up, obj), api.EINVAL)
	if !to.there {
		a.e = cmp.Or(a.e, path.Fresh(to.names))
		a.drafts = []api.Op{{Kind: api.KMove, Obj: obj, Parent: to.up, Name: to.last}}
		return a
	}
	a.e = cmp.Or(a.e, when(to.stat.Dir && !s.stat.Dir, api.EISDIR), when(!to.stat.Dir && s.stat.Dir, api.ENOTDIR), when(len(to.list) > 0, api.ENOTEMPTY))
	_, own, _ := p.view.Where(old)
	a.drafts = []api.Op{p.bin(old), {Kind: api.KMove, Obj: obj, Parent: to.up, Name: own}}
	return a
}

func (p *plain) doFile(c api.Call) (a answer) {
	s := p.at(c.Path)
	a.e = cmp.Or(s.e, when(!s.there, api.ENOENT), when(s.stat.Dir, api.EISDIR))
	value, _ := p.view.Read(s.stat.Obj)
	heads, _ := p.view.Heads(s.stat.Obj)
	var data []byte
	change := false
	switch c.Fn {
	case api.CTruncate:
		a.e = cmp.Or(a.e, when(c.N < 0, api.EINVAL), when(c.N > 65536, api.EFBIG))
		if change = a.e == api.OK && c.N != len(value); change {
			data = spread(value, c.N, nil)[:c.N]
		}
	case api.CConflicts:
		for _, v := range heads {
			a.result.List = append(a.result.List, api.Entry{Obj: v.Stamp, Size: len(v.Data)})
		}
	case api.CResolve:
		a.e = cmp.Or(a.e, when(c.N < 0 || c.N > len(heads)-1, api.EINVAL))
		if change = a.e == api.OK && len(heads) > 1; change {
			data = heads[c.N].Data
		}
	}
	if change {
		a.drafts = []api.Op{{Kind: api.KWrite, Obj: s.stat.Obj, Data: data}}
	}
	return a
}
