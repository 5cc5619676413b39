package vfs

import (
	"lagoon/api"
	"lagoon/path"
)

// place is where a path leads.
type place struct {
	names   []string
	dir     api.ID // reached by all names but the last
	isThere bool
	what    api.Stat // of what is there
}

// isRoot tells whether the path is the root's, which has no last name.
func (p place) isRoot() bool { return len(p.names) == 0 }

// last gives the last name; the path is not the root's.
func (p place) last() string { return p.names[len(p.names)-1] }

// find goes where the path leads. What is to hold the last name must be a directory that is there, but the name itself need not be there.
func (f *FS) find(s string) (place, api.Errno) {
	names, e := path.Parse(s)
	if e != api.OK {
		return place{}, e
	}
	dir, e := f.view.Walk(names[:max(len(names)-1, 0)])
	if e != api.OK {
		return place{}, e
	}
	obj, e := f.view.Walk(names)
	if e == api.ENOTDIR {
		return place{}, e
	}
	p := place{names: names, dir: dir, isThere: e == api.OK}
	if p.isThere {
		p.what, _ = f.view.Stat(obj)
	}
	return p, api.OK
}

// findThere is find, of what must be there.
func (f *FS) findThere(s string) (place, api.Errno) {
	p, e := f.find(s)
	if e == api.OK && !p.isThere {
		return place{}, api.ENOENT
	}
	return p, e
}

// findFile tells what file is there.
func (f *FS) findFile(s string) (api.Stat, api.Errno) {
	p, e := f.findThere(s)
	if e == api.OK && p.what.Dir {
		return api.Stat{}, api.EISDIR
	}
	return p.what, e
}
