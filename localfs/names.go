package localfs

import (
	"bytes"

	"lagoon/api"
	"lagoon/inode"
	"lagoon/localdir"
)

// A directory's bytes lie in its parts one behind the other; all parts but the last one are as great as an inode may be.

// partsFor tells in how many parts so many bytes lie.
func partsFor(size int) int { return (size + api.MaxFile - 1) / api.MaxFile }

// partSize tells how many of so many bytes lie in part i.
func partSize(size, i int) int { return max(0, min(api.MaxFile, size-i*api.MaxFile)) }

// stored gives the directory's bytes as its parts have them.
func (f *FS) stored(o *object) ([]byte, api.Errno) {
	var all []byte
	for _, part := range o.parts {
		b, e := part.Read(f.cache, 0, part.Size())
		if e != api.OK {
			return nil, e
		}
		all = append(all, b...)
	}
	return all, api.OK
}

// loadNames makes o a directory, of the names that its parts have.
func (f *FS) loadNames(o *object) api.Errno {
	b, e := f.stored(o)
	if e != api.OK {
		return e
	}
	if len(o.parts) != partsFor(len(b)) {
		return api.EBADMSG
	}
	for i, part := range o.parts {
		if part.Size() != partSize(len(b), i) {
			return api.EBADMSG
		}
	}
	o.dir, e = localdir.Load(b)
	return e
}

// keep puts what is new of the object into the cache.
func (c *change) keep(o *object) api.Errno {
	if o.gone {
		return api.OK
	}
	if o.isDir() {
		if e := c.keepNames(o); e != api.OK {
			return e
		}
	}
	return c.cache.Put(o.head, o.image())
}

// keepNames writes the directory's bytes. It leaves alone the blocks that are as before: a commit shall cost by what has changed.
func (c *change) keepNames(o *object) api.Errno {
	was, e := c.stored(o)
	if e != api.OK {
		return e
	}
	now := o.dir.Bytes()
	if e := c.resize(o, len(now)); e != api.OK {
		return e
	}
	for at := 0; at < len(now); at += api.Block {
		block := now[at : at+api.Block]
		if at < len(was) && bytes.Equal(block, was[at:at+api.Block]) {
			continue
		}
		if e := o.parts[at/api.MaxFile].Write(c.cache, c.free, at%api.MaxFile, block); e != api.OK {
			return e
		}
	}
	return api.OK
}

// resize makes the object's parts such that they have size bytes.
func (c *change) resize(o *object, size int) api.Errno {
	for len(o.parts) < partsFor(size) {
		o.parts = append(o.parts, inode.New())
	}
	for i, part := range o.parts {
		if e := part.Truncate(c.cache, c.free, partSize(size, i)); e != api.OK {
			return e
		}
	}
	o.parts = o.parts[:partsFor(size)]
	return api.OK
}
