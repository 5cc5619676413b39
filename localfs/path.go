package localfs

import (
	"lagoon/api"
	"lagoon/localdir"
)

// place is where a path leads to.
type place struct {
	parent *object // nil: it is the root
	name   string
	object *object // nil: there is none
}

// checkNames tells what is wrong with a path whatever there is.
func checkNames(p []string) api.Errno {
	if len(p) > api.MaxDepth {
		return api.EINVAL
	}
	for _, name := range p {
		if e := localdir.Fine(name); e != api.OK {
			return e
		}
	}
	return api.OK
}

// find goes from the root down the path.
func (c *change) find(p []string) (place, api.Errno) {
	if e := checkNames(p); e != api.OK {
		return place{}, e
	}
	root, e := c.object(rootBlock)
	at := place{object: root}
	for _, name := range p {
		if e != api.OK {
			break
		}
		at, e = c.step(at, name)
	}
	return at, e
}

// step goes from a place on the way to the place of the next name.
func (c *change) step(at place, name string) (place, api.Errno) {
	if at.object == nil {
		return place{}, api.ENOENT
	}
	if !at.object.isDir() {
		return place{}, api.ENOTDIR
	}
	next := place{parent: at.object, name: name}
	head, ok := at.object.dir.Get(name)
	if !ok {
		return next, api.OK
	}
	o, e := c.object(head)
	next.object = o
	return next, e
}

// file gives the file at the place.
func (at place) file() (*object, api.Errno) {
	if at.object == nil {
		return nil, api.ENOENT
	}
	if at.object.isDir() {
		return nil, api.EISDIR
	}
	return at.object, api.OK
}

// directory gives the directory at the place.
func (at place) directory() (*object, api.Errno) {
	if at.object == nil {
		return nil, api.ENOENT
	}
	if !at.object.isDir() {
		return nil, api.ENOTDIR
	}
	return at.object, api.OK
}
