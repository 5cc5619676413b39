package vfs

import (
	"lagoon/api"
	"lagoon/path"
)

func (t *turn) mkdir() api.Errno {
	p, e := t.find(t.call.Path)
	if e != api.OK {
		return e
	}
	if p.isThere {
		return api.EEXIST
	}
	if e := path.Fresh(p.names); e != api.OK {
		return e
	}
	return t.change(makeDir(p.dir, p.last()))
}

func (t *turn) rmdir() api.Errno {
	p, e := t.findThere(t.call.Path)
	switch {
	case e != api.OK:
		return e
	case p.isRoot():
		return api.EBUSY
	case !p.what.Dir:
		return api.ENOTDIR
	case t.hasKids(p.what.Obj):
		return api.ENOTEMPTY
	}
	return t.change(t.removal(p.what.Obj))
}

func (t *turn) unlink() api.Errno {
	file, e := t.findFile(t.call.Path)
	if e != api.OK {
		return e
	}
	return t.change(t.removal(file.Obj))
}

func (t *turn) rename() api.Errno {
	from, e := t.findThere(t.call.Path)
	if e != api.OK {
		return e
	}
	if from.isRoot() {
		return api.EBUSY
	}
	to, e := t.find(t.call.To)
	switch obj := from.what.Obj; {
	case e != api.OK:
		return e
	case to.isRoot():
		return api.EBUSY
	case to.isThere && to.what.Obj == obj:
		return api.OK
	case to.dir == obj || t.view.Below(to.dir, obj):
		return api.EINVAL
	case to.isThere:
		return t.replace(from.what, to.what)
	}
	if e := path.Fresh(to.names); e != api.OK {
		return e
	}
	return t.change(moveTo(from.what.Obj, to.dir, to.last()))
}

// replace moves one object to the place of another one. That one's own name is taken over, which may be another one than is shown.
func (t *turn) replace(one, other api.Stat) api.Errno {
	switch {
	case other.Dir && !one.Dir:
		return api.EISDIR
	case !other.Dir && one.Dir:
		return api.ENOTDIR
	case t.hasKids(other.Obj):
		return api.ENOTEMPTY
	}
	parent, own, _ := t.view.Where(other.Obj)
	return t.change(t.removal(other.Obj), moveTo(one.Obj, parent, own))
}

func (t *turn) readdir() api.Errno {
	p, e := t.findThere(t.call.Path)
	if e != api.OK {
		return e
	}
	t.result.List, e = t.view.List(p.what.Obj)
	return e
}

func (t *turn) stat() api.Errno {
	p, e := t.findThere(t.call.Path)
	t.result.Stat = p.what
	return e
}

// hasKids tells whether anything is in the directory; a file has none.
func (t *turn) hasKids(obj api.ID) bool {
	list, _ := t.view.List(obj)
	return len(list) > 0
}
