package localfs

import (
	"bytes"
	"slices"

	"lagoon/api"
)

// Each call has a type with its arguments, and with what it answers beside its error; its method do is handed to the frame.

type making struct {
	path []string
	dir  bool
}

func (m making) do(c *change) api.Errno {
	at, e := c.find(m.path)
	if e != api.OK {
		return e
	}
	if at.object != nil {
		return api.EEXIST
	}
	_, e = c.add(at, m.dir)
	return e
}

type writing struct {
	path []string
	at   int
	b    []byte
}

func (w writing) do(c *change) api.Errno {
	at, e := c.find(w.path)
	if e != api.OK {
		return e
	}
	if w.at < 0 {
		return api.EINVAL
	}
	file, e := at.file()
	if e != api.OK {
		return e
	}
	if w.at > api.MaxFile-len(w.b) {
		return api.EFBIG
	}
	was, e := file.content().Read(c.cache, w.at, len(w.b))
	if e != api.OK || bytes.Equal(was, w.b) {
		return e
	}
	return c.write(file, w.at, w.b)
}

type cutting struct {
	path []string
	size int
}

func (t cutting) do(c *change) api.Errno {
	at, e := c.find(t.path)
	if e != api.OK {
		return e
	}
	if t.size < 0 {
		return api.EINVAL
	}
	file, e := at.file()
	if e != api.OK {
		return e
	}
	if t.size > api.MaxFile {
		return api.EFBIG
	}
	if t.size == file.size() {
		return api.OK
	}
	return c.truncate(file, t.size)
}

type replacing struct {
	path []string
	b    []byte
}

func (r replacing) do(c *change) api.Errno {
	at, e := c.find(r.path)
	if e != api.OK {
		return e
	}
	file, e := at.file()
	if e == api.EISDIR {
		return e
	}
	if len(r.b) > api.MaxFile {
		return api.EFBIG
	}
	if e == api.ENOENT {
		file, e = c.add(at, false)
	}
	if e != api.OK {
		return e
	}
	return r.fill(c, file)
}

func (r replacing) fill(c *change, file *object) api.Errno {
	was, e := file.content().Read(c.cache, 0, file.size())
	if e != api.OK || bytes.Equal(was, r.b) {
		return e
	}
	if e := c.truncate(file, len(r.b)); e != api.OK {
		return e
	}
	return c.write(file, 0, r.b)
}

type reading struct {
	path      []string
	at, count int
	out       []byte
}

func (r *reading) do(c *change) api.Errno {
	at, e := c.find(r.path)
	if e != api.OK {
		return e
	}
	if r.at < 0 || r.count < 0 {
		return api.EINVAL
	}
	file, e := at.file()
	if e != api.OK {
		return e
	}
	r.out, e = file.content().Read(c.cache, r.at, r.count)
	return e
}

type removing struct {
	path []string
}

func (r removing) do(c *change) api.Errno {
	at, e := c.find(r.path)
	switch {
	case e != api.OK:
		return e
	case at.parent == nil:
		return api.EBUSY
	case at.object == nil:
		return api.ENOENT
	case at.object.hasNames():
		return api.ENOTEMPTY
	}
	return c.remove(at)
}

type renaming struct {
	from, to []string
}

func (r renaming) do(c *change) api.Errno {
	from, e := c.find(r.from)
	switch {
	case e != api.OK:
		return e
	case len(r.from) == 0 || len(r.to) == 0:
		return api.EBUSY
	case from.object == nil:
		return api.ENOENT
	}
	to, e := c.find(r.to)
	switch {
	case e != api.OK:
		return e
	case slices.Equal(r.from, r.to):
		return api.OK
	case len(r.to) > len(r.from) && slices.Equal(r.from, r.to[:len(r.from)]):
		return api.EINVAL
	case to.object != nil && from.object.isDir() != to.object.isDir():
		return otherKind(to.object)
	case to.object != nil && to.object.hasNames():
		return api.ENOTEMPTY
	}
	return c.move(from, to)
}

// otherKind tells why the object can't be replaced by one that is a file where it is a directory, or a directory where it is a file.
func otherKind(o *object) api.Errno {
	if o.isDir() {
		return api.EISDIR
	}
	return api.ENOTDIR
}

type listing struct {
	path []string
	out  []api.Entry
}

func (l *listing) do(c *change) api.Errno {
	at, e := c.find(l.path)
	if e != api.OK {
		return e
	}
	o, e := at.directory()
	if e != api.OK {
		return e
	}
	names := o.dir.List()
	out := make([]api.Entry, 0, len(names))
	for _, name := range names {
		next, e := c.step(at, name)
		if e != api.OK {
			return e
		}
		out = append(out, api.Entry{Name: name, Dir: next.object.isDir(), Size: next.object.size()})
	}
	l.out = out
	return api.OK
}

type telling struct {
	path []string
	out  api.Stat
}

func (s *telling) do(c *change) api.Errno {
	at, e := c.find(s.path)
	if e != api.OK {
		return e
	}
	if at.object == nil {
		return api.ENOENT
	}
	s.out = api.Stat{Dir: at.object.isDir(), Size: at.object.size()}
	return api.OK
}
