package inode

import "lagoon/api"

// walk goes over the numbers of the file's blocks at the places from, .. up to to, which is not among them.
// At each, visit is asked, with the place and the number (0: a hole); what it answers is the number that stands there then.
// What becomes of the blocks of numbers on the way, the change is told.
type walk struct {
	*change
	from, to int
	holes    bool // whether holes are visited behind which there is no block of numbers: one is taken for them then
	visit    func(place int, number uint32) (uint32, api.Errno)
}

// over goes over the direct, the single and the double numbers.
func (w *walk) over(n *numbers) api.Errno {
	if e := w.level(n[:directs], 0, 1); e != api.OK {
		return e
	}
	if e := w.level(n[directs:directs+1], singleFirst, fanOut); e != api.OK {
		return e
	}
	return w.level(n[directs+1:], doubleFirst, fanOut*fanOut)
}

// level goes over numbers of which each leads to span of the file's blocks, the first one to those from the place first on.
func (w *walk) level(list []uint32, first, span int) api.Errno {
	for i, number := range list {
		place := first + i*span
		if place+span <= w.from || place >= w.to {
			continue
		}
		var e api.Errno
		if span == 1 {
			list[i], e = w.visit(place, number)
		} else {
			list[i], e = w.through(place, number, span/fanOut)
		}
		if e != api.OK {
			return e
		}
	}
	return api.OK
}

// through goes over what the block of that number leads to. If no number is left in it, the block is not needed any more.
func (w *walk) through(place int, number uint32, span int) (uint32, api.Errno) {
	if number == 0 && !w.holes {
		return 0, api.OK
	}
	number, was, e := w.open(number)
	if e != api.OK {
		return 0, e
	}
	now := was
	if e := w.level(now[:], place, span); e != api.OK {
		return 0, e
	}
	if now == (table{}) {
		w.give(number)
		return 0, api.OK
	}
	if now != was {
		w.put(number, now.block())
	}
	return number, api.OK
}

// open gives what the block of that number says; for a hole, a block is taken.
func (w *walk) open(number uint32) (uint32, table, api.Errno) {
	if number == 0 {
		number, e := w.take()
		return number, table{}, e
	}
	b, e := w.get(number)
	if e != api.OK {
		return 0, table{}, e
	}
	return number, tableOf(b), api.OK
}
