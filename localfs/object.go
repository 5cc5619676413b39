package localfs

import (
	"bytes"

	"lagoon/api"
	"lagoon/codec"
	"lagoon/inode"
	"lagoon/localdir"
)

// object is a file or a directory.
type object struct {
	head  int            // the number of its block
	dir   *localdir.Dir  // nil: it is a file
	parts []*inode.Inode // where its bytes lie; a directory may have more of them than one inode takes, a file has just one
	gone  bool           // by the change that is going on
}

func newObject(head int, dir bool) *object {
	if dir {
		return &object{head: head, dir: localdir.New()}
	}
	return &object{head: head, parts: []*inode.Inode{inode.New()}}
}

func (o *object) isDir() bool { return o.dir != nil }

func (o *object) hasNames() bool { return o.dir.Len() > 0 }

// content gives the file's bytes.
func (o *object) content() *inode.Inode { return o.parts[0] }

// size is what a file has; a directory has none.
func (o *object) size() int {
	if o.isDir() {
		return 0
	}
	return o.content().Size()
}

func (o *object) cost() int {
	if o.isDir() {
		return 2 + (o.dir.Len()+3)/4
	}
	return 1 + inode.Cost(o.size())
}

// image gives the object's head.
func (o *object) image() []byte {
	w := codec.NewWriter()
	w.Truth(o.isDir())
	w.Num(int64(len(o.parts)))
	for _, part := range o.parts {
		w.Bytes(part.Bytes())
	}
	return blockOf(w)
}

// markImage gives the block by which a file system is known.
func markImage() []byte {
	w := codec.NewWriter()
	w.Text(mark)
	return blockOf(w)
}

// blockOf gives what was written, and zeros behind it.
func blockOf(w *codec.Writer) []byte {
	// No error: what is written here can be written.
	image, _ := w.Done()
	block := make([]byte, api.Block)
	copy(block, image)
	return block
}

// object gives the object with that head.
func (f *FS) object(head int) (*object, api.Errno) {
	if o, ok := f.known[head]; ok {
		return o, api.OK
	}
	o, e := f.load(head)
	if e != api.OK {
		return nil, e
	}
	f.known[head] = o
	return o, api.OK
}

// load reads the object with that head.
func (f *FS) load(head int) (*object, api.Errno) {
	block, e := f.cache.Get(head)
	if e != api.OK {
		return nil, e
	}
	r := codec.NewReader(block)
	o := &object{head: head}
	isDir := r.Truth()
	for range r.Num() {
		part, e := inode.Load(r.Bytes())
		if e != api.OK {
			return nil, e
		}
		o.parts = append(o.parts, part)
	}
	if isDir {
		e = f.loadNames(o)
	} else if len(o.parts) != 1 {
		e = api.EBADMSG
	}
	if e != api.OK || !bytes.Equal(o.image(), block) {
		return nil, api.EBADMSG
	}
	return o, api.OK
}
