package fds

import (
	"fmt"
	"math"
	"testing"

	"lagoon/api"
)

// offsets are those that a file may have and those that it may not, with what Seek tells.
func offsets() []struct {
	at int
	e  api.Errno
} {
	return []struct {
		at int
		e  api.Errno
	}{
		{0, api.OK}, {1, api.OK}, {65536, api.OK}, {65537, api.OK}, {1<<30 - 1, api.OK}, {1 << 30, api.OK},
		{-1, api.EINVAL}, {-2, api.EINVAL}, {-1 << 30, api.EINVAL}, {-1<<30 - 1, api.EINVAL}, {-1 << 32, api.EINVAL}, {math.MinInt + 1, api.EINVAL}, {math.MinInt, api.EINVAL},
		{1<<30 + 1, api.EOVERFLOW}, {1 << 31, api.EOVERFLOW}, {1 << 32, api.EOVERFLOW}, {1<<32 + 5, api.EOVERFLOW}, {math.MaxInt - 1, api.EOVERFLOW}, {math.MaxInt, api.EOVERFLOW},
	}
}

func TestSeek(t *testing.T) { // P20.1
	for _, x := range offsets() {
		for _, fd := range []int{0, 1, 31} {
			p := fullPair(t, fmt.Sprint("to ", x.at))
			p.seek(fd, 12345)
			if e := p.table.Seek(fd, x.at); e != x.e {
				t.Errorf("Seek(%d, %d) = %d, want %d", fd, x.at, e, x.e)
			}
			want := 12345 // a Seek that is refused leaves it
			if x.e == api.OK {
				want = x.at
			}
			if _, _, at, e := p.table.Get(fd); at != want || e != api.OK {
				t.Errorf("behind Seek(%d, %d) the offset is %d, %d; want %d", fd, x.at, at, e, want)
			}
			p.plain.seek(fd, x.at)
			p.look()
		}
	}
}

// Of a number that is not open the offset says nothing.
func TestSeekTellsEBADFFirst(t *testing.T) { // P20.1, P0.2
	p := fullPair(t, "not open")
	p.close(31, 8)
	for _, fd := range append(strange(), 8, 31) {
		for _, x := range offsets() {
			if e := p.table.Seek(fd, x.at); e != api.EBADF {
				t.Errorf("Seek(%d, %d) = %d, want EBADF", fd, x.at, e)
			}
		}
	}
	p.look()
	p.wantOpens(8, 31) // at 0, wherever one has tried to seek
}

func TestSeekOverAndOver(t *testing.T) { // P20.1
	p := fullPair(t, "over and over")
	for fd := range 32 {
		for _, x := range offsets() {
			p.seek(fd, x.at)
			p.seek(fd, 31*fd)
			p.seek(fd, x.at)
		}
	}
	p.look()
}

func TestGetChangesNothing(t *testing.T) { // P20.1
	p := fullPair(t, "Get")
	for range 3 {
		p.look()
	}
	p.close(3)
	for range 3 {
		p.look()
	}
	p.wantOpens(3)
}
