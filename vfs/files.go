package vfs

import (
	"bytes"
	"math"

	"lagoon/api"
	"lagoon/path"
)

// openFlags are all that there are.
const openFlags = api.OCreate | api.OExcl | api.OTrunc | api.OWrite | api.OAppend

// Where CSeek counts from.
const (
	fromStart  = 0
	fromOffset = 1
	fromSize   = 2
)

func (t *turn) open() api.Errno {
	if !mayOpen(t.call.Flags) {
		return api.EINVAL
	}
	p, e := t.find(t.call.Path)
	if e != api.OK {
		return e
	}
	if p.isThere {
		return t.openOld(p.what)
	}
	return t.openNew(p)
}

func (t *turn) openOld(what api.Stat) api.Errno {
	flags := t.call.Flags
	switch {
	case flags&api.OCreate != 0 && flags&api.OExcl != 0:
		return api.EEXIST
	case what.Dir:
		return api.EISDIR
	case !t.files.Room():
		return api.ENFILE
	}
	if flags&api.OTrunc != 0 && what.Size > 0 {
		if e := t.change(writeTo(what.Obj, nil)); e != api.OK {
			return e
		}
	}
	return t.give(what.Obj)
}

func (t *turn) openNew(p place) api.Errno {
	if t.call.Flags&api.OCreate == 0 {
		return api.ENOENT
	}
	if e := path.Fresh(p.names); e != api.OK {
		return e
	}
	if !t.files.Room() {
		return api.ENFILE
	}
	if e := t.change(makeFile(p.dir, p.last())); e != api.OK {
		return e
	}
	return t.give(t.made[0].Obj)
}

// give gives the file a descriptor.
func (t *turn) give(obj api.ID) api.Errno {
	var e api.Errno
	t.result.N, e = t.files.Open(obj, t.call.Flags)
	return e
}

func (t *turn) read() api.Errno {
	obj, _, at, e := t.files.Get(t.call.Fd)
	switch {
	case e != api.OK:
		return e
	case t.call.N < 0 || t.call.N > api.MaxFile:
		return api.EINVAL
	case !t.view.Live(obj):
		return api.ESTALE
	}
	b, _ := t.view.Read(obj)
	b = b[min(at, len(b)):]
	b = b[:min(t.call.N, len(b))]
	t.result.N, t.result.Data = len(b), bytes.Clone(b)
	return t.files.Seek(t.call.Fd, at+len(b))
}

func (t *turn) write() api.Errno {
	obj, flags, at, e := t.files.Get(t.call.Fd)
	switch {
	case e != api.OK || flags&api.OWrite == 0:
		return api.EBADF
	case !t.view.Live(obj):
		return api.ESTALE
	}
	b, _ := t.view.Read(obj)
	if flags&api.OAppend != 0 {
		at = len(b)
	}
	end := at + len(t.call.Data)
	if end > api.MaxFile {
		return api.EFBIG
	}
	if len(t.call.Data) == 0 {
		return api.OK
	}
	b = resized(b, max(len(b), end))
	copy(b[at:], t.call.Data)
	if e := t.change(writeTo(obj, b)); e != api.OK {
		return e
	}
	t.result.N = len(t.call.Data)
	return t.files.Seek(t.call.Fd, end)
}

func (t *turn) seek() api.Errno {
	obj, _, at, e := t.files.Get(t.call.Fd)
	if e != api.OK {
		return e
	}
	switch t.call.Flags {
	case fromStart:
		at = 0
	case fromOffset:
	case fromSize:
		file, e := t.view.Stat(obj)
		if e != api.OK {
			return api.ESTALE
		}
		at = file.Size
	default:
		return api.EINVAL
	}
	if t.call.N > math.MaxInt-at { // the sum is greater than an int, so it is also beyond all offsets
		return api.EOVERFLOW
	}
	t.result.N = at + t.call.N
	return t.files.Seek(t.call.Fd, t.result.N)
}

func (t *turn) close() api.Errno { return t.files.Close(t.call.Fd) }

// mayOpen tells whether a file may be opened with the flags: what changes it asks for OWrite.
func mayOpen(flags int) bool {
	changes := flags&(api.OTrunc|api.OAppend) != 0
	return flags&^openFlags == 0 && (!changes || flags&api.OWrite != 0)
}

// resized gives so many bytes: those of b, cut or with zeros behind them.
func resized(b []byte, size int) []byte {
	all := make([]byte, size)
	copy(all, b)
	return all
}
