package vfs

import (
	"math"
	"strings"
	"testing"

	"lagoon/api"
	"lagoon/ops"
)

// openPair is basePair with /d/f open: 0 for reading, 1 for writing, 2 for writing behind its end.
func openPair(t *testing.T, what string) *pair {
	t.Helper()
	return basePair(t, what).want(told{call: open("/d/f", 0)}, told{call: open("/d/f", writes), n: 1}, told{call: open("/d/f", writes|app), n: 2})
}

// notOpen are numbers that are no descriptors of openPair.
func notOpen() []int {
	return []int{3, 4, 31, 32, 33, -1, -2, 1 << 32, math.MinInt, math.MaxInt}
}

func TestWhatIsNotOpen(t *testing.T) { // P21.2, P0.1, P0.2
	p := openPair(t, "a machine")
	for _, fd := range notOpen() {
		p.refuse(api.EBADF, read(fd, 1), read(fd, -1), read(fd, 65537), write(fd, "x"), write(fd, ""), write(fd, strings.Repeat("x", 65537)),
			seek(fd, 0, 0), seek(fd, 0, 3), seek(fd, -1, 0), seek(fd, math.MaxInt, 1), seek(fd, 0, 2), closing(fd))
	}
	p.look()
}

func TestRead(t *testing.T) { // P21.2
	p := openPair(t, "a machine")
	p.wantRead(0, 0, "").wantRead(0, 1, "t").wantRead(0, 0, "").wantRead(0, 2, "ex").wantRead(0, 2, "t").wantRead(0, 2, "").wantRead(0, 65536, "")
	p.wantRead(1, 65536, "text").wantRead(1, 65536, "") // each descriptor goes on by itself
	p.wantRead(2, 4, "text").wantRead(2, 1, "")
	p.want(told{call: seek(0, 2, 0), n: 2}).wantRead(0, 3, "xt").want(told{call: seek(0, 0, 1), n: 4})
	p.want(told{call: seek(0, 5, 0), n: 5}).wantRead(0, 3, "").want(told{call: seek(0, 0, 1), n: 5})
	p.want(told{call: seek(0, 1<<30, 0), n: 1 << 30}).wantRead(0, 65536, "").want(told{call: seek(0, 0, 1), n: 1 << 30})
	p.look()
}

func TestReadOfHowMany(t *testing.T) { // P21.2, P0.1, P0.2
	p := openPair(t, "a machine")
	p.refuse(api.EINVAL, read(0, -1), read(0, -65536), read(0, 65537), read(1, 1<<30), read(0, 1<<32), read(0, math.MinInt), read(0, math.MaxInt))
	p.wantRead(0, 65536, "text").wantRead(1, 0, "").look()
	whole := strings.Repeat("0123456789abcdef", 4096)
	p.pass(seek(0, 0, 0), write(1, whole)).wantRead(0, 65536, whole).wantRead(0, 1, "")
	p.pass(seek(0, 65535, 0)).wantRead(0, 65536, "f")
	p.refuse(api.EINVAL, read(0, 65537))
}

// What is read is what all see: the last head, whoever wrote it.
func TestReadOfWhatOthersWrote(t *testing.T) { // P21.2
	p := openPair(t, "a machine").wantRead(0, 2, "te")
	p.load(puts(id(9, 1), f, "others")).wantRead(0, 9, "hers").wantRead(1, 9, "others")
	p.load(puts(id(2000, 0), f, "it", 0, 1)).wantRead(0, 9, "").want(told{call: seek(1, 1, 0), n: 1}).wantRead(1, 9, "t")
	p.wantShape("d(e() f=text=it) g").look()
}

func TestWrite(t *testing.T) { // P21.2
	p := openPair(t, "a machine")
	p.want(
		told{call: write(1, "T"), n: 1, made: `write 3.2 "Text"`},
		told{call: write(1, "EX"), n: 2, made: `write 3.2 "TEXt"`},
		told{call: write(1, "T, and more"), n: 11, made: `write 3.2 "TEXT, and more"`},
		told{call: seek(1, 0, 1), n: 14},
		told{call: seek(1, 2, 0), n: 2},
		told{call: write(1, "X"), n: 1, made: `write 3.2 "TEXT, and more"`}, // the same bytes are written, too
		told{call: seek(1, 0, 1), n: 3},
		told{call: truncate("/d/f", 3), made: `write 3.2 "TEX"`},
		told{call: seek(1, 6, 0), n: 6},
		told{call: write(1, "ab"), n: 2, made: `write 3.2 "TEX\x00\x00\x00ab"`},
		told{call: seek(1, 0, 1), n: 8},
		told{call: seek(0, 0, 1)},
	).wantRead(0, 99, "TEX\x00\x00\x00ab").look()
}

func TestWriteBehindTheEnd(t *testing.T) { // P21.2
	p := openPair(t, "a machine")
	p.want(
		told{call: write(2, "+"), n: 1, made: `write 3.2 "text+"`},
		told{call: seek(2, 0, 1), n: 5},
		told{call: seek(2, 1, 0), n: 1},
		told{call: write(2, "+"), n: 1, made: `write 3.2 "text++"`},
		told{call: seek(2, 0, 1), n: 6},
		told{call: write(1, "T"), n: 1, made: `write 3.2 "Text++"`},
		told{call: seek(2, 65537, 0), n: 65537},
		told{call: write(2, "-"), n: 1, made: `write 3.2 "Text++-"`}, // wherever the offset was
		told{call: seek(2, 0, 1), n: 7},
		told{call: truncate("/d/f", 1), made: `write 3.2 "T"`},
		told{call: write(2, "!"), n: 1, made: `write 3.2 "T!"`},
		told{call: seek(2, 0, 1), n: 2},
		told{call: truncate("/d/f", 4), made: `write 3.2 "T!\x00\x00"`},
		told{call: write(2, "?"), n: 1, made: `write 3.2 "T!\x00\x00?"`},
	).look()
	p.load(puts(id(90, 1), f, "others")).want(told{call: write(2, "+"), n: 1, made: `write 3.2 "others+"`}).wantShape("d(e() f=others+) g").look()
}

func TestWriteOfNothing(t *testing.T) { // P21.2, P0.4
	p := openPair(t, "a machine")
	for _, data := range [][]byte{nil, {}} {
		p.want(
			told{call: api.Call{Fn: api.CWrite, Fd: 1, Data: data}},
			told{call: seek(1, 3, 0), n: 3},
			told{call: api.Call{Fn: api.CWrite, Fd: 1, Data: data}},
			told{call: seek(1, 0, 1), n: 3},
			told{call: seek(1, 65536, 0), n: 65536}, // there is no byte behind it, but none is asked for
			told{call: api.Call{Fn: api.CWrite, Fd: 1, Data: data}},
			told{call: seek(1, 0, 1), n: 65536},
			told{call: api.Call{Fn: api.CWrite, Fd: 2, Data: data}},
			told{call: seek(2, 0, 1)},
		)
	}
	p.want(told{call: seek(1, 65537, 0), n: 65537}).refuse(api.EFBIG, write(1, "")).want(told{call: seek(1, 0, 1), n: 65537})
	p.wantShape(baseShape).look()
}

func TestWriteOfTooMuch(t *testing.T) { // P21.2, P0.2
	p := openPair(t, "a machine")
	all := strings.Repeat("x", 65537)
	p.refuse(api.EFBIG, write(1, all), write(2, all[:65533]), write(2, all))
	p.want(told{call: seek(1, 1, 0), n: 1}).refuse(api.EFBIG, write(1, all[:65536])).want(told{call: seek(1, 0, 1), n: 1})
	p.want(told{call: seek(1, 65535, 0), n: 65535}).refuse(api.EFBIG, write(1, "ab"))
	p.want(told{call: seek(1, 65536, 0), n: 65536}).refuse(api.EFBIG, write(1, "a"))
	p.want(told{call: seek(1, 1<<30, 0), n: 1 << 30}).refuse(api.EFBIG, write(1, "a"), write(1, ""), write(1, all))
	p.want(told{call: seek(2, 1<<30, 0), n: 1 << 30}, told{call: write(2, "")}, told{call: seek(2, 0, 1), n: 1 << 30})
	p.wantShape(baseShape).look()
	p.pass(seek(1, 65535, 0), write(1, "x"), stat("/d/f")).want(told{call: seek(1, 0, 1), n: 65536}, told{call: seek(2, 0, 2), n: 65536})
	p.refuse(api.EFBIG, write(2, "x"))
	p.pass(write(2, ""), seek(1, 0, 0), write(1, all[:65536])).wantRead(0, 65536, all[:65536]).look()
	p.pass(truncate("/d/f", 5)).pass(write(2, all[:65531])).refuse(api.EFBIG, write(2, "x"))
}

func TestWriteWithoutTheFlag(t *testing.T) { // P21.2, P0.2
	p := openPair(t, "a machine").want(told{call: open("/x", create), n: 3, made: "file 6.2 in 0.0 as x"}, told{call: open("/g", excl), n: 4})
	for _, fd := range []int{0, 3, 4} {
		p.refuse(api.EBADF, write(fd, "x"), write(fd, ""), write(fd, strings.Repeat("x", 65537)))
	}
	p.pass(seek(0, 65537, 0)).refuse(api.EBADF, write(0, "x"))
	p.pass(unlink("/d/f")).refuse(api.EBADF, write(0, "x")).refuse(api.ESTALE, write(1, "x")).look()
}

// A new version has seen all that are there, so they are heads no more.
func TestWriteToAFileOfManyHeads(t *testing.T) { // P21.2
	p := openPair(t, "a machine").load(puts(id(7, 1), f, "other"), puts(id(9, 3), f, "third"))
	p.wantShape("d(e() f=text=other=third) g").want(told{call: write(1, "TH"), n: 2, made: `write 3.2 "THird"`}).wantShape("d(e() f=THird) g").look()
}

func TestSeek(t *testing.T) { // P21.2
	p := openPair(t, "a machine")
	p.want(
		told{call: seek(0, 0, 0)},
		told{call: seek(0, 3, 0), n: 3}, told{call: seek(0, 2, 1), n: 5}, told{call: seek(0, -4, 1), n: 1}, told{call: seek(0, 0, 1), n: 1}, told{call: seek(0, -1, 1)},
		told{call: seek(0, 0, 2), n: 4}, told{call: seek(0, 3, 2), n: 7}, told{call: seek(0, -1, 2), n: 3}, told{call: seek(0, -4, 2)},
		told{call: seek(0, 1<<30, 0), n: 1 << 30}, told{call: seek(0, 0, 1), n: 1 << 30}, told{call: seek(0, -1<<30, 1)},
		told{call: seek(0, 1<<30-4, 2), n: 1 << 30}, told{call: seek(0, -1, 1), n: 1<<30 - 1}, told{call: seek(0, 1, 1), n: 1 << 30},
		told{call: seek(1, 0, 1)}, // another descriptor of the same file
	)
	p.want(told{call: seek(0, 0, 2), n: 4}, told{call: write(1, "longer"), n: 6, made: `write 3.2 "longer"`}, told{call: seek(0, 0, 2), n: 6}, told{call: seek(0, 0, 1), n: 6})
	p.load(puts(id(90, 1), f, "the last head")).want(told{call: seek(0, 0, 2), n: 13}).look()
}

func TestSeekToNoPlace(t *testing.T) { // P21.2, P0.1, P0.2, P0.6
	p := openPair(t, "a machine")
	for _, at := range []int{3, 0, 1 << 30} {
		p.want(told{call: seek(0, at, 0), n: at})
		p.refuse(api.EINVAL, seek(0, -1, 0), seek(0, -at-1, 1), seek(0, -5, 2), seek(0, math.MinInt, 0), seek(0, math.MinInt, 1), seek(0, math.MinInt, 2), seek(0, math.MinInt+1, 1))
		p.refuse(api.EOVERFLOW, seek(0, 1<<30+1, 0), seek(0, 1<<30+1-at, 1), seek(0, 1<<30-3, 2), seek(0, math.MaxInt, 0), seek(0, math.MaxInt, 1), seek(0, math.MaxInt, 2), seek(0, math.MaxInt-1, 2), seek(0, math.MaxInt-at, 1), seek(0, math.MaxInt-4, 2), seek(0, 1<<31, 1), seek(0, 1<<32, 0))
		p.want(told{call: seek(0, 0, 1), n: at})
	}
	for _, from := range []int{3, 4, -1, -2, 1 << 32, math.MinInt, math.MaxInt} {
		p.refuse(api.EINVAL, seek(0, 0, from), seek(0, -1, from), seek(0, 1<<30+1, from), seek(0, math.MaxInt, from))
	}
	p.want(told{call: seek(0, 0, 1), n: 1 << 30}).look()
}

func TestClose(t *testing.T) { // P21.2
	p := openPair(t, "a machine")
	p.want(told{call: closing(1)}).refuse(api.EBADF, closing(1), read(1, 1), write(1, "x"), seek(1, 0, 0))
	p.wantRead(0, 1, "t").want(told{call: open("/g", writes), n: 1}).wantRead(1, 9, "").look()
	p.want(told{call: closing(2)}, told{call: closing(0)}, told{call: closing(1)}).refuse(api.EBADF, closing(0), closing(1), closing(2))
	p.want(told{call: open("/g", 0)}).look()
}

// A descriptor of a file that is gone is open, but tells ESTALE where the file is asked for.
func (p *pair) wantStale(fd, at int) *pair {
	p.t.Helper()
	p.refuse(api.ESTALE, read(fd, 0), read(fd, 1), read(fd, 65536), write(fd, "x"), write(fd, ""), write(fd, strings.Repeat("x", 65537)), seek(fd, 0, 2), seek(fd, -99, 2), seek(fd, math.MaxInt, 2), seek(fd, math.MinInt, 2))
	p.refuse(api.EINVAL, read(fd, -1), read(fd, 65537), seek(fd, -1, 0), seek(fd, 0, 3), seek(fd, 0, -1))
	p.refuse(api.EOVERFLOW, seek(fd, 1<<30+1, 0))
	return p.want(told{call: seek(fd, 0, 1), n: at}, told{call: seek(fd, 65537, 0), n: 65537}).refuse(api.ESTALE, write(fd, "x")).want(told{call: seek(fd, at, 0), n: at}).look()
}

func TestFilesThatAreGone(t *testing.T) { // P21.2
	for _, c := range []struct {
		what  string
		calls []api.Call
	}{
		{"taken away", []api.Call{unlink("/d/f")}},
		{"its place taken", []api.Call{rename("/g", "/d/f")}},
		{"made anew", []api.Call{unlink("/d/f"), open("/d/f", create|excl), closing(3)}},
	} {
		p := openPair(t, c.what).wantRead(1, 3, "tex").pass(c.calls...).wantStale(1, 3).wantStale(2, 0)
		p.want(told{call: closing(1)}).refuse(api.EBADF, closing(1), read(1, 0)).look()
	}
	p := openPair(t, "its directory taken away by another node").wantRead(1, 3, "tex")
	p.load(moves(id(40, 1), d, ops.Trash(), "d")).wantStale(1, 3)
	p.load(moves(id(41, 1), d, ops.Root(), "back", 0, 1)).wantRead(1, 9, "t").want(told{call: write(2, "!"), n: 1, made: `write 3.2 "text!"`}).look()
}
