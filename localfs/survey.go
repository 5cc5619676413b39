package localfs

import (
	"bytes"

	"lagoon/api"
	"lagoon/bcache"
	"lagoon/bitmap"
	"lagoon/wal"
)

// found gives the file system that the volume holds.
func found(v *wal.Volume, capacity int) (*FS, api.Errno) {
	f := &FS{
		volume:   v,
		cache:    bcache.New(v, cacheRoom),
		capacity: capacity,
		commits:  v.Commits(),
		free:     bitmap.New(v.Blocks()),
		known:    map[int]*object{},
	}
	if b, _ := f.cache.Get(markBlock); !bytes.Equal(b, markImage()) {
		return nil, api.EBADMSG
	}
	if !f.survey() {
		return nil, api.EBADMSG
	}
	return f, api.OK
}

// heads gathers the heads of a directory's objects.
type heads []int

func (h *heads) add(_ string, head int) { *h = append(*h, head) }

// survey looks at all that the root leads to; false, if that is no tree of files and directories, each block in use for one thing.
func (f *FS) survey() bool {
	f.free.Set(markBlock)
	left := heads{rootBlock}
	for len(left) > 0 {
		head := left[len(left)-1]
		left = left[:len(left)-1]
		o, ok := f.meet(head)
		if !ok {
			return false
		}
		o.dir.Each(left.add)
	}
	return f.known[rootBlock].isDir()
}

// meet takes the object with that head and its blocks, which must all be free yet.
func (f *FS) meet(head int) (*object, bool) {
	if f.free.Set(head) != api.OK {
		return nil, false
	}
	o, e := f.object(head)
	if e != api.OK {
		return nil, false
	}
	for _, part := range o.parts {
		t := trail{FS: f, size: part.Size()}
		if !t.over(part) {
			return nil, false
		}
	}
	f.cost += o.cost()
	return o, true
}
