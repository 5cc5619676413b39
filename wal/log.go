package wal

import (
	"bytes"
	"maps"
	"slices"

	"lagoon/api"
)

const (
	mark = "lagoon: a volume of blocks" // by it a head is known
	most = 1 << 62                      // above all numbers that a head may hold, so that counting on never wraps
)

// homeOf is the device's block that holds the volume's block while no record of the log does.
func homeOf(block int) int {
	return 1 + block
}

// start is the log's first block; it ends with the device.
func (v *Volume) start() int {
	return homeOf(v.Blocks())
}

func (v *Volume) eraseHead() api.Errno {
	return v.erase(0, 1)
}

func (v *Volume) eraseRest() api.Errno {
	return v.erase(1, v.d.Blocks())
}

// erase leaves alone what is zeros already: a device costs what was written to it.
func (v *Volume) erase(from, to int) api.Errno {
	zeros := make([]byte, api.Block)
	for i := from; i < to; i++ {
		if b, _ := v.d.Read(i); bytes.Equal(b, zeros) {
			continue
		}
		if e := v.d.Write(i, zeros); e != api.OK {
			return e
		}
	}
	return api.OK
}

// head is the device's block 0: where the homes stand, and which turn of the log goes on from there.
func (v *Volume) head() []byte {
	b := appendNumber(nil, v.turn)
	b = appendNumber(b, v.commits)
	b = appendNumber(b, int64(v.d.Blocks()))
	return seal(append(b, mark...))
}

func (v *Volume) writeHead() api.Errno {
	return v.d.Write(0, v.head())
}

func (v *Volume) readHead() api.Errno {
	b, _ := v.d.Read(0)
	content, ok := unseal(b)
	if !ok {
		return api.EBADMSG
	}
	v.turn, v.commits = number(content), number(content[numberSize:])
	if !isCount(v.turn) || !isCount(v.commits) || !bytes.Equal(b, v.head()) {
		return api.EBADMSG
	}
	return api.OK
}

func isCount(n int64) bool {
	return n >= 0 && n < most
}

// readLog takes the log's records up to the first one that is not whole. What stands behind that one may be whole and of this turn: so nothing may be added to this turn any more.
func (v *Volume) readLog() api.Errno {
	v.fresh = map[int][]byte{}
	at := v.start()
	for {
		puts, pages := v.readRecord(at)
		if pages == 0 {
			break
		}
		v.take(puts)
		at += pages
	}
	v.next = v.d.Blocks()
	return api.OK
}

// readRecord gives the puts of the record at that block of the log, and how many pages it has; none: there is no whole one.
func (v *Volume) readRecord(at int) ([]api.Put, int) {
	first, ok := v.readPage(at)
	if !ok {
		return nil, 0
	}
	n := number(first)
	if n < 1 || n > int64(v.Blocks()) {
		return nil, 0
	}
	pages := pagesFor(int(n))
	record := make([]byte, 0, pages*len(first))
	for i := range pages {
		body, ok := v.readPage(at + i)
		if !ok {
			return nil, 0
		}
		record = append(record, body...)
	}
	puts := putsOf(record)
	if !v.takes(puts) {
		return nil, 0
	}
	return puts, pages
}

// readPage gives what the page at that block of the log carries; false, if there is none of this turn.
func (v *Volume) readPage(at int) ([]byte, bool) {
	b, _ := v.d.Read(at) // behind the device's end there is nothing, and so no page
	content, ok := unseal(b)
	if !ok || number(content) != v.turn {
		return nil, false
	}
	return content[numberSize:], true
}

// write adds the puts to the log, as one record.
func (v *Volume) write(puts []api.Put) api.Errno {
	if v.d.Blocks()-v.next < pagesFor(len(puts)) {
		if e := v.restart(); e != api.OK {
			return e
		}
	}
	for body := range slices.Chunk(recordOf(puts), bodySize) {
		page := append(appendNumber(nil, v.turn), body...)
		if e := v.d.Write(v.next, seal(page)); e != api.OK {
			return e
		}
		v.next++
	}
	return api.OK
}

// restart begins the log anew. The flushes stand where a write of the one side, kept, would do harm if one of the other side were lost.
func (v *Volume) restart() api.Errno {
	anew := &Volume{d: v.d, commits: v.commits, turn: v.turn + 1, next: v.start(), fresh: map[int][]byte{}}
	e := inOrder(v.d.Flush, v.writeHomes, v.d.Flush, anew.writeHead, v.d.Flush)
	if e == api.OK {
		*v = *anew
	}
	return e
}

func (v *Volume) writeHomes() api.Errno {
	for _, block := range slices.Sorted(maps.Keys(v.fresh)) {
		if e := v.d.Write(homeOf(block), v.fresh[block]); e != api.OK {
			return e
		}
	}
	return api.OK
}
