package oplog

import (
	"slices"
	"strconv"
	"strings"

	"lagoon/api"
	"lagoon/codec"
	"lagoon/crc"
	"lagoon/ops"
)

// The operations stand one behind the other, in the order in which they came, each in a frame; their bytes are cut into parts, all of them full but the last one. The head tells how many of these bytes are the log's, and Meta. It is written as a whole behind the bytes that it counts: so a crash, or a call that fails, leaves bytes that nobody counts, and that the next ones overwrite.
//
// A frame takes 8 bytes, of the 16 that an operation costs beside its own: so the parts have never more bytes than the log's room, which is a quarter of what the file system has by the chapter's Words.
const (
	headName   = "log"
	partPrefix = "log."
	partSize   = api.MaxFile
)

func headPath() []string { return []string{headName} }

func partPath(i int) []string { return []string{partPrefix + strconv.Itoa(i)} }

// head gives the bytes of the head.
func (h *held) head() []byte {
	w := codec.NewWriter()
	w.Num(int64(h.size))
	w.Bytes(h.meta)
	// No errors: both can be written, and are few bytes.
	b, _ := w.Done()
	frame, _ := crc.Frame(b)
	return frame
}

// readHead takes over what the head tells.
func (h *held) readHead(frame []byte) api.Errno {
	b, n, e := crc.Unframe(frame)
	r := codec.NewReader(b)
	size, meta := r.Num(), r.Bytes()
	if e != api.OK || n != len(frame) || r.Done() != api.OK || len(meta) > maxMeta {
		return api.EBADMSG
	}
	h.size, h.meta = int(size), meta
	return api.OK
}

// framesOf gives the bytes of operations that may be.
func framesOf(os []api.Op) []byte {
	var all []byte
	for _, o := range os {
		// No errors: an operation that may be has few enough bytes.
		b, _ := ops.Encode(o)
		frame, _ := crc.Frame(b)
		all = append(all, frame...)
	}
	return all
}

// readFrames takes the operations of the frames, which must be as Add would have taken them.
func (h *held) readFrames(all []byte) api.Errno {
	for len(all) > 0 {
		b, n, e := crc.Unframe(all)
		if e != api.OK {
			return api.EBADMSG
		}
		o, e := ops.Decode(b)
		if e != api.OK || !h.takes(o) {
			return api.EBADMSG
		}
		h.add(o)
		all = all[n:]
	}
	return api.OK
}

// load reads the files.
func (l *Log) load() api.Errno {
	b, e := l.files.Read(headPath(), 0, api.MaxFile)
	if e == api.ENOENT {
		return l.loadNone()
	}
	if e != api.OK {
		return unreadable(e)
	}
	if e := l.readHead(b); e != api.OK {
		return e
	}
	all, e := l.readParts()
	if e != api.OK {
		return e
	}
	return l.readFrames(all)
}

// loadNone sees that without a head there is nothing of a log: parts come behind the first head.
func (l *Log) loadNone() api.Errno {
	entries, e := l.files.List(nil)
	if e != api.OK {
		return unreadable(e)
	}
	if slices.ContainsFunc(entries, isPart) {
		return api.EBADMSG
	}
	return api.OK
}

func isPart(entry api.Entry) bool { return strings.HasPrefix(entry.Name, partPrefix) }

// readParts gives the bytes that are the log's.
func (l *Log) readParts() ([]byte, api.Errno) {
	var all []byte
	for i := 0; len(all) < l.size; i++ {
		want := min(partSize, l.size-len(all))
		b, e := l.files.Read(partPath(i), 0, want)
		if e != api.OK {
			return nil, unreadable(e)
		}
		if len(b) < want {
			return nil, api.EBADMSG
		}
		all = append(all, b...)
	}
	return all, api.OK
}

// unreadable tells why the files can't be read: they are not as a log's are, or it was the file system that failed.
func unreadable(e api.Errno) api.Errno {
	switch e {
	case api.ENOENT, api.EISDIR, api.EBADMSG:
		return api.EBADMSG
	}
	return api.EIO
}

// keep makes next what the log holds, with more bytes in the parts.
func (l *Log) keep(next held, more []byte) api.Errno {
	if l.lay(more) != api.OK {
		return api.EIO
	}
	next.size += len(more)
	if l.files.Replace(headPath(), next.head()) != api.OK {
		return api.EIO
	}
	l.held = next
	return api.OK
}

// lay puts the bytes behind those that are the log's.
func (l *Log) lay(more []byte) api.Errno {
	if l.size == 0 && len(more) > 0 {
		// The first part must not stand there without a head.
		if e := l.files.Replace(headPath(), l.head()); e != api.OK {
			return e
		}
	}
	for at := l.size; len(more) > 0; {
		n := min(len(more), partSize-at%partSize)
		if e := l.write(at, more[:n]); e != api.OK {
			return e
		}
		at, more = at+n, more[n:]
	}
	return api.OK
}

// write puts bytes into one part, of which all ahead of them is there.
func (l *Log) write(at int, b []byte) api.Errno {
	path, within := partPath(at/partSize), at%partSize
	if within == 0 {
		return l.files.Replace(path, b)
	}
	return l.files.Write(path, within, b)
}
