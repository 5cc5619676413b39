package inode

import "lagoon/api"

// reading copies a file's bytes from at on to out, which holds zeros at first.
type reading struct {
	change
	at  int
	out []byte
}

// copyOut is Read's visit.
func (r *reading) copyOut(place int, number uint32) (uint32, api.Errno) {
	if number == 0 {
		return 0, api.OK
	}
	data, e := r.get(number)
	if e != api.OK {
		return 0, e
	}
	begin := place * api.Block
	from := max(r.at, begin)
	copy(r.out[from-r.at:], data[from-begin:])
	return number, api.OK
}

// writing makes b the file's bytes from at on.
type writing struct {
	change
	at    int
	b     []byte
	spots []spot
}

// spot is one of the file's blocks that is written; a fresh one was a hole.
type spot struct {
	place  int
	number uint32
	fresh  bool
}

// plan finds all blocks ahead of reading one: whether there are enough of them is told first.
func (w *writing) plan(n *numbers) api.Errno {
	k := walk{change: &w.change, from: w.at / api.Block, to: upTo(w.at + len(w.b)), holes: true, visit: w.find}
	if e := k.over(n); e != api.OK {
		return e
	}
	for _, s := range w.spots {
		if e := w.fill(s); e != api.OK {
			return e
		}
	}
	return api.OK
}

// find is Write's visit.
func (w *writing) find(place int, number uint32) (uint32, api.Errno) {
	fresh := number == 0
	if fresh {
		taken, e := w.take()
		if e != api.OK {
			return 0, e
		}
		number = taken
	}
	w.spots = append(w.spots, spot{place, number, fresh})
	return number, api.OK
}

// fill puts the spot's share of b. What a fresh block held before is nobody's any more: the rest of it is zeros.
func (w *writing) fill(s spot) api.Errno {
	begin := s.place * api.Block
	from, to := max(w.at, begin), min(w.at+len(w.b), begin+api.Block)
	data := make([]byte, api.Block)
	if !s.fresh && to-from < api.Block {
		old, e := w.get(s.number)
		if e != api.OK {
			return e
		}
		data = old
	}
	copy(data[from-begin:], w.b[from-w.at:to-w.at])
	w.put(s.number, data)
	return api.OK
}

// cutting takes from a file what stands behind size.
type cutting struct {
	change
	size int
}

// cut is Truncate's visit.
func (t *cutting) cut(place int, number uint32) (uint32, api.Errno) {
	if number == 0 {
		return 0, api.OK
	}
	if stays := t.size - place*api.Block; stays > 0 {
		return number, t.wipe(number, stays)
	}
	t.give(number)
	return 0, api.OK
}

// wipe makes all bytes of the block zeros but the first ones, so many as stay.
func (t *cutting) wipe(number uint32, stay int) api.Errno {
	data, e := t.get(number)
	if e != api.OK {
		return e
	}
	clear(data[stay:])
	t.put(number, data)
	return api.OK
}
