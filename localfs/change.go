package localfs

import (
	"slices"

	"lagoon/api"
	"lagoon/bitmap"
)

// change is what one call does. Until it is committed, the file system's own free and cost are as before, and what it put waits in the cache.
// Its objects are changed where they stand: if it is dropped, the file system forgets them, and reads them again as they were.
type change struct {
	*FS
	free    *bitmap.Map
	cost    int
	touched []*object
}

// run is the frame of all calls.
func (f *FS) run(do func(*change) api.Errno) api.Errno {
	if f == nil {
		return api.EIO
	}
	c := f.begin()
	e := do(c)
	if e == api.OK {
		e = c.commit()
	}
	if e != api.OK {
		c.drop()
	}
	return e
}

// begin looks first whether someone else, who has mounted the same device, has committed: to go on from what was known would spoil that.
func (f *FS) begin() *change {
	if f.volume.Commits() != f.commits {
		if next, e := found(f.volume, f.capacity); e == api.OK {
			*f = *next
		}
	}
	return &change{FS: f, free: f.free.Copy(), cost: f.cost}
}

// commit asks the device for nothing where nothing has changed: it may be dead.
func (c *change) commit() api.Errno {
	if len(c.touched) == 0 {
		return api.OK
	}
	if c.settle(); c.cost > c.capacity && c.cost > c.FS.cost {
		return api.ENOSPC
	}
	for _, o := range c.touched {
		if e := c.keep(o); e != api.OK {
			return e
		}
	}
	if e := c.cache.Commit(); e != api.OK {
		return e
	}
	c.adopt()
	return api.OK
}

// settle counts what the objects cost now.
func (c *change) settle() {
	for _, o := range c.touched {
		if !o.gone {
			c.cost += o.cost()
		}
	}
}

// adopt makes what was committed the file system's own.
func (c *change) adopt() {
	for _, o := range c.touched {
		if o.gone {
			delete(c.known, o.head)
		} else {
			c.known[o.head] = o
		}
	}
	c.FS.free, c.FS.cost = c.free, c.cost
	c.commits = c.volume.Commits()
}

func (c *change) drop() {
	c.cache.Drop()
	for _, o := range c.touched {
		delete(c.known, o.head)
	}
}

// touch says that the object will be changed: what it costs now does not count any more.
func (c *change) touch(o *object) {
	if slices.Contains(c.touched, o) {
		return
	}
	c.touched = append(c.touched, o)
	c.cost -= o.cost()
}

// add makes an object at a place where there is none.
func (c *change) add(at place, dir bool) (*object, api.Errno) {
	head, e := c.free.Take()
	if e != api.OK {
		return nil, e
	}
	o := newObject(head, dir)
	c.touched = append(c.touched, o)
	return o, c.link(at, o)
}

func (c *change) link(at place, o *object) api.Errno {
	c.touch(at.parent)
	return at.parent.dir.Put(at.name, o.head)
}

func (c *change) unlink(at place) api.Errno {
	c.touch(at.parent)
	return at.parent.dir.Drop(at.name)
}

// remove takes the object from its place, and gives all its blocks back.
func (c *change) remove(at place) api.Errno {
	if e := c.unlink(at); e != api.OK {
		return e
	}
	o := at.object
	c.touch(o)
	o.gone = true
	if e := c.resize(o, 0); e != api.OK {
		return e
	}
	return c.free.Give(o.head)
}

// move makes the one place's object the other's. What was there must be such as may be taken away for it.
func (c *change) move(from, to place) api.Errno {
	if to.object != nil {
		if e := c.remove(to); e != api.OK {
			return e
		}
	}
	// Ahead of the link, for the directory may be full.
	if e := c.unlink(from); e != api.OK {
		return e
	}
	return c.link(to, from.object)
}

// write makes b the file's bytes from at on.
func (c *change) write(file *object, at int, b []byte) api.Errno {
	c.touch(file)
	return file.content().Write(c.cache, c.free, at, b)
}

// truncate makes the file end at size.
func (c *change) truncate(file *object, size int) api.Errno {
	c.touch(file)
	return file.content().Truncate(c.cache, c.free, size)
}
